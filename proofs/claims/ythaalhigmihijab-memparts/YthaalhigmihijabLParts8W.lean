/- Statement MemParts. -/
import Derived.Test.YthaalhigmihijabM6
import Derived.Test.YthaalhigmihijabM7
import Derived.Test.YthaalhigmihijabTN8
namespace Go.Proofs.Ythaalhigmihijab
open Go.RowKit

def rng (l : List Ent) (k tk : ByteArray) : List Ent := l.filter fun e => !(Op.bytesLess e.k.toList k.toList) && (decide (tk.size = 0) || Op.bytesLess e.k.toList tk.toList)
theorem rng_length (l : List Ent) (k tk : ByteArray) : (rng l k tk).length ≤ l.length := List.length_filter_le _ _
theorem range8 {B p la : Nat} {ds : List Int} {L : List Ent} {ns : List Nd} {w : World} (h : Mem B p ds L la ns w) (k tk : ByteArray) (hl : L.length ≤ 1000) :
    Calls Try.prog 22 #[.pointer (some ⟨p, 0, none⟩), .string k, .string tk] w fun e w' => ∃ v, e = .returned v ∧ Row w' 30 4 v (rng (entsOf ns) k tk).length (cellsE (rng (entsOf ns) k tk)) ∧ (∀ b, ob v = some b → w.heap.size ≤ b) ∧ Below w.heap.size w w' := by
  obtain ⟨P, Q, hc⟩ := cut_of k 18446744073709551615 ns h.tab.skp.right.ord
  have := memRange_any tk h.tab hc (by rw [h.len]; omega)
  rw [range_filter h.tab.skp.right.ord h.tab.skp.right.fit hc tk] at this
  exact this
theorem cellsE_one (l : List Ent) : ∀ u ∈ cellsE l, u.oneCell' = true := by
  intro u hu
  obtain ⟨x, -, hx⟩ := List.mem_flatMap.1 hu
  simp only [Ent.cells, List.mem_cons, List.not_mem_nil, or_false] at hx
  rcases hx with rfl | rfl | rfl | rfl <;> rfl
theorem row_src {w : World} {v : Value} {n : Nat} {xs : List Value} (h : Row w 30 4 v n xs) (h1 : ∀ u ∈ xs, u.oneCell' = true) : Src Try.prog 4 22 v n xs w := by
  have hc := h.cell
  have hl := h.1
  have some_case : ∀ b o cap, v = .slice (some ⟨b, o, none⟩) n cap → Src Try.prog 4 22 v n xs w := fun b o cap hv => by
    rw [hv]
    refine Src.ofSlice (P := Try.prog) _ (size := 4) Try.underlying22 ⟨b, o, none⟩ n cap xs hl (fun j u hu => ?_) h1
    have hadd : (⟨b, o, none⟩ : Addr).add j = ⟨b, o + j, none⟩ := by unfold Addr.add; split <;> simp_all
    rw [hadd]
    exact hc b o cap hv j u hu
  rcases h.2 with ⟨h0, rfl | ⟨b, o, hv⟩⟩ | ⟨g, cap, cur, hv, -⟩
  · subst h0
    have : xs = [] := List.length_eq_zero_iff.1 (by simpa using hl)
    subst this
    exact Src.ofNil (P := Try.prog) (w := w) Try.underlying22 0
  · subst h0
    exact some_case b o 0 hv
  · exact some_case g 0 (cap + 1) hv
theorem same_rows {w : World} {v1 v2 : Value} {l : List Ent} (h1 : Row w 30 4 v1 l.length (cellsE l)) (h2 : Row w 30 4 v2 l.length (cellsE l)) (hl : l.length ≤ 1000000) :
    Calls Try.prog 13 #[v1, v2] w fun e w' => e = .returned (.bool true) ∧ Below w.heap.size w w' := by
  obtain ⟨a1, c1, rfl, e1⟩ := row_ents h1
  obtain ⟨a2, c2, rfl, e2⟩ := row_ents h2
  exact same_ents a1 a2 c1 c2 l w e1 e2 hl
theorem less_asym {a b : List UInt8} (h : Op.bytesLess a b = true) : Op.bytesLess b a = false := by
  cases hb : Op.bytesLess b a with
  | false => rfl
  | true =>
    rw [less_cb] at h hb
    have h1 := of_decide_eq_true h
    have h2 := of_decide_eq_true hb
    rw [cb_swap, h1] at h2
    exact absurd h2 (by decide)
theorem less_irr (a : List UInt8) : Op.bytesLess a a = false := by
  rw [less_cb, cb_refl]
  rfl
theorem less_three (a b : ByteArray) : Op.bytesLess a.toList b.toList = true ∨ a = b ∨ (Op.bytesLess a.toList b.toList = false ∧ (a.toList == b.toList) = false) := by
  cases h : Op.bytesLess a.toList b.toList with
  | true => exact .inl rfl
  | false =>
    cases he : (a.toList == b.toList) with
    | true => exact .inr (.inl (str_eq he))
    | false => exact .inr (.inr ⟨rfl, rfl⟩)
/-- What MemParts goes on with. -/
structure Good8 (len len5 : Nat) (f m t : ByteArray) : Prop where
  l : len ≤ 20
  d : len5 ≤ 20
  f3 : f.size ≤ 300
  m3 : m.size ≤ 300
  t3 : t.size ≤ 300
  m0 : m.size ≠ 0
  t0 : t.size ≠ 0
  fm : Op.bytesLess m.toList f.toList = false
  mt : Op.bytesLess t.toList m.toList = false
theorem addOk_parts {la first : Nat} {ws : List Wr} (h : addOk la first ws = true) : wrsOk ws = true ∧ la < first ∧ first + ws.length ≤ 4611686018427387904 := by
  unfold addOk at h
  simp only [Bool.and_eq_true, decide_eq_true_eq] at h
  exact ⟨h.1.1, h.1.2, h.2⟩
theorem maxN (N R : Nat) : max (N : Int) (R : Int) = ((max N R : Nat) : Int) := by omega
set_option maxHeartbeats 8000000 in
set_option maxRecDepth 100000 in
theorem memParts_walk (a : Option Addr) (len cap : Nat) (os : List O8) (f : ByteArray) (hf : f.size ≤ maxLen) (m : ByteArray) (hm : m.size ≤ maxLen) (t : ByteArray) (ht : t.size ≤ maxLen) (a5 : Option Addr) (len5 cap5 : Nat) (ks : List Int) (w : World) (hO : IsO8 w a len os) (hD : IsIs w a5 len5 ks) (hn5 : a5 = none → cap5 = 0) :
    Calls Try.prog 7 #[.slice a len cap, .string f, .string m, .string t, .slice a5 len5 cap5] w fun e w' => e = .returned (.bool true) ∧ Below w.heap.size w w' := by
  have CA := Lib.hid alive8_any
  have hlm : len ≤ 9223372036854775807 := by have := hO.1; unfold maxLen at this; omega
  have hlm5 : len5 ≤ 9223372036854775807 := by have := hD.1; unfold maxLen at this; omega
  have HI := Lib.hid (intsV_of (cap := cap5) hD hn5)
  have hkl : ks.length = len5 := hD.2.1
  have HO := Lib.hid hO
  unfold maxLen at hf hm ht
  have hel : os.length = len := hO.2.2.1
  clear hO hD hn5
  go_enter Try.func7, Try.ntmps7
  go_upto_region 1 with fail
  go_cut [60] from 20 to 60 (fun bv wx => ∃ bad : Bool, bv = .bool bad ∧ (bad = false → Good8 len len5 f m t) ∧ wx = w)
  case first =>
    by_cases g1 : len ≤ 20
    case neg =>
      have d1 : decide (20 < (len : Int)) = true := by simp; omega
      have d1' : decide (20 < len) = true := by simp; omega
      go_wp2_with fail
      go_meet
      exact ⟨true, rfl, (fun h => by cases h), rfl⟩
    have d1 : decide (20 < (len : Int)) = false := by simp; omega
    have d1' : decide (20 < len) = false := by simp; omega
    by_cases g2 : len5 ≤ 20
    case neg =>
      have d2 : decide (20 < (len5 : Int)) = true := by simp; omega
      have d2' : decide (20 < len5) = true := by simp; omega
      go_wp2_with fail
      go_meet
      exact ⟨true, rfl, (fun h => by cases h), rfl⟩
    have d2 : decide (20 < (len5 : Int)) = false := by simp; omega
    have d2' : decide (20 < len5) = false := by simp; omega
    by_cases g3 : f.size ≤ 300
    case neg =>
      have d3 : decide (300 < (f.size : Int)) = true := by simp; omega
      have d3' : decide (300 < f.size) = true := by simp; omega
      go_wp2_with fail
      go_meet
      exact ⟨true, rfl, (fun h => by cases h), rfl⟩
    have d3 : decide (300 < (f.size : Int)) = false := by simp; omega
    have d3' : decide (300 < f.size) = false := by simp; omega
    by_cases g4 : m.size ≤ 300
    case neg =>
      have d4 : decide (300 < (m.size : Int)) = true := by simp; omega
      have d4' : decide (300 < m.size) = true := by simp; omega
      go_wp2_with fail
      go_meet
      exact ⟨true, rfl, (fun h => by cases h), rfl⟩
    have d4 : decide (300 < (m.size : Int)) = false := by simp; omega
    have d4' : decide (300 < m.size) = false := by simp; omega
    by_cases g5 : t.size ≤ 300
    case neg =>
      have d5 : decide (300 < (t.size : Int)) = true := by simp; omega
      have d5' : decide (300 < t.size) = true := by simp; omega
      go_wp2_with fail
      go_meet
      exact ⟨true, rfl, (fun h => by cases h), rfl⟩
    have d5 : decide (300 < (t.size : Int)) = false := by simp; omega
    have d5' : decide (300 < t.size) = false := by simp; omega
    by_cases g6 : m.size = 0
    case pos =>
      have d6 := to_no g6
      clear g6
      go_wp2_with fail
      go_meet
      exact ⟨true, rfl, (fun h => by cases h), rfl⟩
    have d6 := to_ne g6
    by_cases g7 : t.size = 0
    case pos =>
      have d7 := to_no g7
      clear g7
      go_wp2_with fail
      go_meet
      exact ⟨true, rfl, (fun h => by cases h), rfl⟩
    have d7 := to_ne g7
    rcases less_three f m with e8 | rfl | ⟨e8, e8'⟩
    · rcases less_three m t with e9 | rfl | ⟨e9, e9'⟩
      · go_wp2_with fail
        go_meet
        exact ⟨false, rfl, fun _ => ⟨g1, g2, g3, g4, g5, g6, g7, less_asym e8, less_asym e9⟩, rfl⟩
      · go_wp2_with fail
        go_meet
        exact ⟨false, rfl, fun _ => ⟨g1, g2, g3, g4, g5, g6, g7, less_asym e8, less_irr _⟩, rfl⟩
      · go_wp2_with fail
        go_meet
        exact ⟨true, rfl, (fun h => by cases h), rfl⟩
    · rcases less_three f t with e9 | rfl | ⟨e9, e9'⟩
      · go_wp2_with fail
        go_meet
        exact ⟨false, rfl, fun _ => ⟨g1, g2, g3, g4, g5, g6, g7, less_irr _, less_asym e9⟩, rfl⟩
      · go_wp2_with fail
        go_meet
        exact ⟨false, rfl, fun _ => ⟨g1, g2, g3, g4, g5, g6, g7, less_irr _, less_irr _⟩, rfl⟩
      · go_wp2_with fail
        go_meet
        exact ⟨true, rfl, (fun h => by cases h), rfl⟩
    · go_wp2_with fail
      go_meet
      exact ⟨true, rfl, (fun h => by cases h), rfl⟩
  case rest =>
    obtain ⟨bad, rfl, hgood, rfl⟩ := hcut
    cases bad with
    | true =>
      clear hgood
      go_wp2_with (go_at_call 19; refine (CA.out _).mono ?_; rintro _ w2 ⟨rfl, b2⟩)
      go_ret
      exact ⟨rfl, b2⟩
    | false =>
      have hg := hgood rfl
      have g1 := hg.l
      have g2 := hg.d
      have HRP := Lib.hid (fun l (hl : List.Pairwise ltE l) => range_parts hl f m t hg.m0 hg.t0 hg.fm hg.mt)
      obtain ⟨w, rfl⟩ : ∃ w, w = wc := ⟨_, rfl⟩
      have CN1 := Lib.hid (memNew_any (.slice none 0 0) [] w (.inl ⟨rfl, rfl⟩) (by simp))
      have CN2 := Lib.hid (fun W (h' : IntsV W (.slice a5 len5 cap5) ks) => memNew_any (.slice a5 len5 cap5) ks W h' (by omega))
      clear hgood hg
      go_wp2_with (fail)
      (with_reducible refine CN1.out.mono ?_)
      rintro _ w1 ⟨p, rfl, ht1, b1⟩
      have HT1 := Lib.hid ht1
      have HB1 := Lib.hid b1
      clear ht1 b1
      go_wp2_with (fail)
      (with_reducible refine (CN2.out _ (HI.out.below HB1.out)).mono ?_)
      rintro _ w2 ⟨q, rfl, ht2, b2⟩
      have HB2 := Lib.hid (HB1.out.trans (b2.mono HB1.out.size))
      have HTW := Lib.hid (show Two w.heap.size p q [] ks [] 0 [] [] w2 from by
        have hs1 := HB1.out.size
        have m1 := (tab_mem HT1.out).below b2
        have t2' : Tab w.heap.size q ks [] 0 0 w2 := ⟨⟨ht2.skp.lst, ht2.skp.right, fun k hk => Nat.le_trans hs1 (ht2.skp.base k hk)⟩, by
          obtain ⟨v, h1, h2, h3⟩ := ht2.dr
          exact ⟨v, h1, h2, fun b hb => ⟨Nat.le_trans hs1 (h3 b hb).1, (h3 b hb).2⟩⟩, ht2.size, ht2.last⟩
        have hp1 := HT1.out.hdlt
        have hq1 := ht2.base
        refine ⟨m1, tab_mem t2', fun k hk hq => ?_, fun v b hv hb hq => ?_, fun v b hv hb hq => ?_⟩
        · simp [foot, hd] at hk hq
          omega
        · have hv1 : w1.cell? ⟨p, 13, none⟩ = some v := Eq.trans (Eq.symm (b2.cell (p := ⟨p, 13, none⟩) hp1)) hv
          have := HT1.out.drlt v b hv1 hb
          simp [foot, hd] at hq
          omega
        · obtain ⟨v', h1, h2, h3⟩ := ht2.dr
          rw [h1] at hv
          cases hv
          have := (h3 b hb).1
          simp [foot, hd] at hq
          omega)
      clear ht2 b2
      go_wp2_with (fail)
      go_loopw [13, 14] (fun nv iv wr => ∃ (i N la : Nat) (L : List Ent) (ns ms : List Nd), nv = .int .u64 (N : Int) ∧ iv = .int .i64 (i : Int) ∧ i ≤ len ∧ la < N ∧ N ≤ 4611686018427387904 ∧ L.length ≤ 20 * i ∧ Two w.heap.size p q [] ks L la ns ms wr ∧ Below w.heap.size w wr) (fun _ iv _ => len - (intOf iv).toNat)
      case atStart => exact ⟨0, 1, 0, [], [], [], rfl, rfl, Nat.zero_le _, by omega, by omega, by simp, HTW.out, HB2.out⟩
      case round =>
        obtain ⟨i, N, la, L, ns, ms, rfl, rfl, hi0, hlaN, hN, hLl, htwo, hbl⟩ := hrel
        by_cases hlt : i < len
        · have hil : (i : Int) < (len : Int) := by omega
          obtain ⟨b, off, rfl, hblt, x, hget, hcell⟩ : ∃ b off, a = some ⟨b, off, none⟩ ∧ b < w.heap.size ∧ ∃ x : O8, os[i]? = some x ∧ ∀ j u, x.cells[j]? = some u → wr.cell? ⟨b, off + i * 5 + j, none⟩ = some u := by
            rcases (HO.out.2.2.below hbl).2 with h0 | ⟨b, off, e, h1, h2⟩
            · omega
            · exact ⟨b, off, e, h1, os[i]'(by omega), List.getElem?_eq_getElem (by omega), h2 i (by omega)⟩
          have hok := HO.out.2.1 x (List.mem_of_getElem? hget)
          obtain ⟨xf, xa, xl, xc, xws, xk, xe, xq⟩ := x
          have q1 : wr.cell? ⟨b, off + i * 5 + 1, none⟩ = some (.slice xa xl xc) := hcell 1 _ rfl
          have hxm : xl ≤ 9223372036854775807 := by have := hok.ws.1; unfold maxLen at this; simp only at this; omega
          have HBL := Lib.hid hbl
          clear hcell hget
          by_cases h20 : xl ≤ 20
          case neg =>
            have e1 : decide (20 < (xl : Int)) = true := by simp; omega
            have e1' : decide (20 < xl) = true := by simp; omega
            clear htwo hok hbl
            go_wp2_with (go_at_call 19; refine (CA.out _).mono ?_; rintro _ w5 ⟨rfl, b5⟩)
            go_ret
            exact ⟨rfl, HBL.out.trans (b5.mono HBL.out.size)⟩
          have e1 : decide (20 < (xl : Int)) = false := by simp; omega
          have e1' : decide (20 < xl) = false := by simp; omega
          have hws : WrsAt w.heap.size wr xa xl xws := hok.ws.2.2.below hbl
          have hwl : xws.length = xl := hws.1
          have CM := Lib.hid (memAdd_any htwo.one N xa xl xc xws (hws.mono hbl.size) hok.ws.2.1 (fun b' o' e h0 => by
            intro hm
            rcases hws.2 with h1 | ⟨b2, o2, e2, h2, -⟩
            · omega
            · rw [e] at e2
              cases e2
              have := htwo.one.tab.skp.base _ hm
              omega) (by omega) (by omega) (by omega) (by simp) (by omega))
          have CQ := Lib.hid (fun W1 (t1 : Turn (foot p ns) wr W1) => memAdd_any (htwo.mid t1) N xa xl xc xws (by
            refine ⟨hws.1, ?_⟩
            rcases hws.2 with h1 | ⟨b2, o2, e2, h2, h3⟩
            · exact .inl h1
            · refine .inr ⟨b2, o2, e2, by have := hbl.size; have := t1.size; omega, fun i' hi' j u hu => (t1.cell (by have := hbl.size; omega) (fun hm => ?_)).trans (h3 i' hi' j u hu)⟩
              have := htwo.one.tab.skp.base _ hm
              omega) hok.ws.2.1 (fun b' o' e h0 => by
            intro hm
            rcases hws.2 with h1 | ⟨b2, o2, e2, h2, -⟩
            · omega
            · rw [e] at e2
              cases e2
              have := htwo.two.tab.skp.base _ hm
              omega) (by omega) (by omega) (by omega) (by omega) (by omega))
          have HTWO := Lib.hid htwo
          have HQ1 := Lib.hid (show ∀ W1, Turn (foot p ns) wr W1 → W1.cell? ⟨b, off + i * 5 + 1, none⟩ = some (.slice xa xl xc) from fun W1 t1 => (t1.cell (by have := hbl.size; omega) (fun hm => by
            have := htwo.one.tab.skp.base _ hm
            omega)).trans q1)
          clear htwo hok hbl hws
          cases hadd : addOk la N xws with
          | true =>
            obtain ⟨y1, y2, y3⟩ := addOk_yes hadd L
            obtain ⟨o1, -, o3⟩ := addOk_parts hadd
            have hpos := wrsOk_pos o1
            rw [y1, y2, y3] at CM CQ
            obtain ⟨R, hR⟩ : ∃ R, R = N + xws.length := ⟨_, rfl⟩
            obtain ⟨L', hL'⟩ : ∃ L', L' = L ++ vers N xws := ⟨_, rfl⟩
            obtain ⟨la', hla'⟩ : ∃ la', la' = N + xws.length - 1 := ⟨_, rfl⟩
            rw [← hla', ← hL', ← hR] at CM CQ
            have hmax : max (N : Int) (R : Int) = (R : Int) := by omega
            have HLN := Lib.hid (show L'.length ≤ 20 * (i + 1) by rw [hL', List.length_append, vers_length]; omega)
            have HLA := Lib.hid (show la' < R ∧ R ≤ 4611686018427387904 by omega)
            clear y1 y2 y3 o1 o3 hpos hadd hR hL' hla' hwl
            go_wp2_with (fail)
            (with_reducible refine CM.out.mono ?_)
            rintro e w3 ⟨rfl, ns', hm3, ht3, hf3, h3⟩
            have q1' := HQ1.out w3 ht3
            have CQ2 := Lib.hid (CQ.out w3 ht3)
            have HN3 := Lib.hid (And.intro hm3 (And.intro ht3 (And.intro hf3 h3)))
            clear hm3 ht3 hf3 h3
            go_wp2_with (fail)
            (with_reducible refine CQ2.out.mono ?_)
            rintro e w4 ⟨rfl, ms', hm4, ht4, hf4, h4⟩
            have HTN := Lib.hid (HTWO.out.step HN3.out.1 HN3.out.2.1 HN3.out.2.2.1 HN3.out.2.2.2 hm4 ht4 hf4 h4)
            have HB4 := Lib.hid (show Below w.heap.size w w4 from (HBL.out.trans (HN3.out.2.1.below HBL.out.size (fun k hk => HTWO.out.one.tab.skp.base k hk))).trans (ht4.below (Nat.le_trans HBL.out.size HN3.out.2.1.size) (fun k hk => HTWO.out.two.tab.skp.base k hk)))
            clear hm4 ht4 hf4 h4
            go_wp2
            go_roundw
            case rel => exact ⟨i + 1, R, la', L', ns', ms', rfl, by go_num, by omega, HLA.out.1, HLA.out.2, HLN.out, HTN.out, HB4.out⟩
            case measure => simp [intOf]; omega
          | false =>
            obtain ⟨y1, y2, y3⟩ := addOk_no hadd L
            rw [y1, y2, y3] at CM CQ
            have hmax : max (N : Int) 0 = (N : Int) := by omega
            clear y1 y2 y3 hadd hwl
            go_wp2_with (fail)
            (with_reducible refine CM.out.mono ?_)
            rintro e w3 ⟨rfl, ns', hm3, ht3, hf3, h3⟩
            have q1' := HQ1.out w3 ht3
            have CQ2 := Lib.hid (CQ.out w3 ht3)
            have HN3 := Lib.hid (And.intro hm3 (And.intro ht3 (And.intro hf3 h3)))
            clear hm3 ht3 hf3 h3
            go_wp2_with (fail)
            (with_reducible refine CQ2.out.mono ?_)
            rintro e w4 ⟨rfl, ms', hm4, ht4, hf4, h4⟩
            have HTN := Lib.hid (HTWO.out.step HN3.out.1 HN3.out.2.1 HN3.out.2.2.1 HN3.out.2.2.2 hm4 ht4 hf4 h4)
            have HB4 := Lib.hid (show Below w.heap.size w w4 from (HBL.out.trans (HN3.out.2.1.below HBL.out.size (fun k hk => HTWO.out.one.tab.skp.base k hk))).trans (ht4.below (Nat.le_trans HBL.out.size HN3.out.2.1.size) (fun k hk => HTWO.out.two.tab.skp.base k hk)))
            clear hm4 ht4 hf4 h4
            go_wp2
            go_roundw
            case rel => exact ⟨i + 1, N, la, L, ns', ms', rfl, by go_num, by omega, hlaN, hN, by omega, HTN.out, HB4.out⟩
            case measure => simp [intOf]; omega
        · obtain rfl : i = len := by omega
          obtain ⟨w3, rfl⟩ : ∃ w3, w3 = wr := ⟨_, rfl⟩
          have hL400 : L.length ≤ 1000 := by omega
          have hnl : (entsOf ns).length ≤ 1000 := by
            have := htwo.one.len
            simp only [entsOf, List.length_map]
            omega
          have CR := Lib.hid (fun W (h' : Two w.heap.size p q [] ks L la ns ms W) k tk => range8 h'.one k tk hL400)
          have CR2 := Lib.hid (fun W (h' : Two w.heap.size p q [] ks L la ns ms W) k tk => range8 h'.two k tk hL400)
          rw [← htwo.same] at CR2
          have CS := Lib.hid (fun W (h' : Two w.heap.size p q [] ks L la ns ms W) => memSize_any h'.one.tab)
          have CS2 := Lib.hid (fun W (h' : Two w.heap.size p q [] ks L la ns ms W) => memSize_any h'.two.tab)
          have hrp := HRP.out (entsOf ns) (ents_ord htwo.one.tab.skp.right.ord)
          obtain ⟨E1, hE1⟩ : ∃ E1, E1 = rng (entsOf ns) f m := ⟨_, rfl⟩
          obtain ⟨E2, hE2⟩ : ∃ E2, E2 = rng (entsOf ns) m t := ⟨_, rfl⟩
          obtain ⟨E3, hE3⟩ : ∃ E3, E3 = rng (entsOf ns) f t := ⟨_, rfl⟩
          have hEE : E1 ++ E2 = E3 := by rw [hE1, hE2, hE3]; exact hrp
          have l1 : E1.length ≤ 1000 := by rw [hE1]; exact Nat.le_trans (rng_length _ _ _) hnl
          have l2 : E2.length ≤ 1000 := by rw [hE2]; exact Nat.le_trans (rng_length _ _ _) hnl
          have l3 : E3.length ≤ 1000 := by rw [hE3]; exact Nat.le_trans (rng_length _ _ _) hnl
          have C1 := Lib.hid (fun W h' => CR.out W h' f m)
          have C2 := Lib.hid (fun W h' => CR.out W h' m t)
          have C3 := Lib.hid (fun W h' => CR.out W h' f t)
          have C4 := Lib.hid (fun W h' => CR2.out W h' f t)
          rw [← hE1] at C1
          rw [← hE2] at C2
          rw [← hE3] at C3 C4
          have CE := Lib.hid (fun W v1 v2 (h1 : Row W 30 4 v1 E3.length (cellsE E3)) (h2 : Row W 30 4 v2 E3.length (cellsE E3)) => same_rows h1 h2 (by omega))
          have HEE := Lib.hid hEE
          have HTW2 := Lib.hid htwo
          have HBL := Lib.hid hbl
          obtain ⟨i0, hi, hz0, hzs, hzb⟩ := info_parts infoE5
          have HBa := Lib.hid (show E1.length + E2.length ≤ maxLen by unfold maxLen; omega)
          have HBb := Lib.hid (show (E1.length + E2.length) * 48 ≤ 140737488355328 by omega)
          clear CR CR2 hrp hE1 hE2 hE3 hEE htwo hbl
          go_wp2_with (fail)
          (with_reducible refine (C1.out _ HTW2.out).mono ?_)
          rintro e w4 ⟨V1, rfl, r4, o4, b4⟩
          have HT4 := Lib.hid (HTW2.out.below b4)
          have HR4 := Lib.hid r4
          have HO4 := Lib.hid o4
          have HB4 := Lib.hid b4
          clear r4 o4 b4
          go_wp2_with (fail)
          (with_reducible refine (C2.out _ HT4.out).mono ?_)
          rintro e w5 ⟨V2, rfl, r5, o5, b5⟩
          have HT5 := Lib.hid (HT4.out.below b5)
          have HR5 := Lib.hid r5
          have HR45 := Lib.hid (row_below HR4.out b5)
          have HB5 := Lib.hid (show Below w3.heap.size w3 w5 from HB4.out.trans (b5.mono HB4.out.size))
          clear r5 o5 b5
          go_wp2_with (first
            | (at_builtin; refine wpList_append_row _ rfl _ _ 22 22 rfl 30 i0 _ 4 48 Try.underlying22 hi hz0 hzs hzb rfl V1 _ _ rfl HR45.out V2 rfl E2.length _ (row_src HR5.out (cellsE_one _)) HBa.out HBb.out ?_; intro v' w6 hrow6 hgrow6 hob6)
            | fail)
          have hB6 : Below w3.heap.size w3 w6 := HB5.out.trans ((turn_of_grown (F := (ob V1).toList) hgrow6 (fun k hk => .inl (by simp [hk]))).below HB5.out.size (fun k hk => HO4.out k (by simpa using hk)))
          rw [← List.length_append, ← cellsE_append, HEE.out] at hrow6
          have HR6 := Lib.hid hrow6
          have HB6 := Lib.hid hB6
          have HT6 := Lib.hid (HTW2.out.below hB6)
          clear hB6 hrow6 hgrow6 hob6
          (with_reducible refine (CA.out _).mono ?_)
          rintro e w7 ⟨rfl, b7⟩
          have HR7 := Lib.hid (row_below HR6.out b7)
          have HT7 := Lib.hid (HT6.out.below b7)
          have HB7 := Lib.hid (HB6.out.trans (b7.mono HB6.out.size))
          clear b7
          go_wp2_with (fail)
          (with_reducible refine (C3.out _ HT7.out).mono ?_)
          rintro e w8 ⟨V3, rfl, r8, o8, b8⟩
          have HR8 := Lib.hid (row_below HR7.out b8)
          have HV3 := Lib.hid r8
          have HT8 := Lib.hid (HT7.out.below b8)
          have HB8 := Lib.hid (HB7.out.trans (b8.mono HB7.out.size))
          clear b8 o8 r8
          go_wp2_with (fail)
          (with_reducible refine (CE.out _ _ _ HR8.out HV3.out).mono ?_)
          rintro e w9 ⟨rfl, b9⟩
          have HT9 := Lib.hid (HT8.out.below b9)
          have HB9 := Lib.hid (HB8.out.trans (b9.mono HB8.out.size))
          clear b9
          go_wp2_with (fail)
          (with_reducible refine (C3.out _ HT9.out).mono ?_)
          rintro e w10 ⟨V5, rfl, r10, o10, b10⟩
          have HV5 := Lib.hid r10
          have HT10 := Lib.hid (HT9.out.below b10)
          have HB10 := Lib.hid (HB9.out.trans (b10.mono HB9.out.size))
          clear b10 o10 r10
          go_wp2_with (fail)
          (with_reducible refine (C4.out _ HT10.out).mono ?_)
          rintro e w11 ⟨V6, rfl, r11, o11, b11⟩
          have HV6 := Lib.hid r11
          have HV5' := Lib.hid (row_below HV5.out b11)
          have HT11 := Lib.hid (HT10.out.below b11)
          have HB11 := Lib.hid (HB10.out.trans (b11.mono HB10.out.size))
          clear b11 o11 r11
          go_wp2_with (fail)
          (with_reducible refine (CE.out _ _ _ HV5'.out HV6.out).mono ?_)
          rintro e w12 ⟨rfl, b12⟩
          have HT12 := Lib.hid (HT11.out.below b12)
          have HB12 := Lib.hid (HB11.out.trans (b12.mono HB11.out.size))
          clear b12
          go_wp2_with (fail)
          (with_reducible refine (CS.out _ HT12.out).mono ?_)
          rintro e _ ⟨rfl, rfl⟩
          go_wp2_with (fail)
          (with_reducible refine (CS2.out _ HT12.out).mono ?_)
          rintro e _ ⟨rfl, rfl⟩
          go_wp2
          go_ret
          exact ⟨rfl, HBL.out.trans (HB12.out.mono HBL.out.size)⟩
end Go.Proofs.Ythaalhigmihijab
