/- MergeTells, walked. -/
import Derived.Test.YtcbailiniigcnaaGreatVC14
import Derived.Test.YtcbailiniigcnaaGreatV5
import Derived.Test.YtcbailiniigcnaaGreatV6
import Derived.Test.YtcbailiniigcnaaGreatVE14
import Derived.Test.YtcbailiniigcnaaGreatHT6
import Derived.Deep.CutRange
namespace Go.Proofs.YtcbailiniigcnaaGreat
open Go.ChangeShapes Go.WideShapes Go.ChangeAt Go.Deep Go.RowKit

theorem ord_pairT {l : List Ent} (h : Ord l) : l.Pairwise ltE := by
  rw [List.pairwise_iff_getElem]
  intro i j hi hj hij
  have := h i j hij hj
  have g : ∀ (k : Nat) (hk : k < l.length), l.getD k Ent.zero = l[k] := fun k hk => by simp [List.getD, hk]
  rw [g i hi, g j hj] at this
  exact this
/-- What was asked of the lists: few, short, sorted. -/
def Fit (ls : List SlE) : Prop := ls.length ≤ 8 ∧ ∀ s ∈ ls, s.es.length ≤ 60 ∧ s.es.Pairwise ltE ∧ ∀ x ∈ s.es, x.Fine
/-- What stays readable of what came in. -/
structure InL (w : World) (l : Option Addr) (ls : List SlE) : Prop where
  lists : ∀ s ∈ ls, s.es.length = s.len ∧ EntsAt w.heap.size w s.a s.len s.es ∧ (s.a = none → s.es = [] ∧ s.cap = 0) ∧ s.len ≤ s.cap
  cell : ls = [] ∨ ∃ b off, l = some ⟨b, off, none⟩ ∧ b < w.heap.size ∧ ∀ i (h : i < ls.length), w.cell? ⟨b, off + i, none⟩ = some ls[i].val
theorem InL.below {w w' : World} {l : Option Addr} {ls : List SlE} (h : InL w l ls) (hb : Below w.heap.size w w') : InL w' l ls :=
  ⟨fun s hs => ⟨(h.lists s hs).1, ((h.lists s hs).2.1.below hb).mono hb.size, (h.lists s hs).2.2⟩, h.cell.imp id fun ⟨b, off, e, h1, h2⟩ => ⟨b, off, e, Nat.lt_of_lt_of_le h1 hb.size, fun i hi => (hb.cell (p := ⟨b, _, none⟩) h1).trans (h2 i hi)⟩⟩
theorem inL_of {w : World} {l : Option Addr} {len : Nat} {ls : List SlE} (h : IsEss w l len ls) : InL w l ls := by
  obtain ⟨-, hl, hx, hc⟩ := h
  refine ⟨fun s hs => ⟨(hx s hs).1.2.2.1, (hx s hs).1.2.2, (fun e => by
    have h1 := (hx s hs).2.2.2 e
    have h2 := (hx s hs).2.1
    have h3 : s.es.length = s.len := (hx s hs).1.2.2.1
    exact ⟨List.eq_nil_of_length_eq_zero (by omega), h1⟩), (hx s hs).2.1⟩, ?_⟩
  rcases hc with h0 | h1
  · exact .inl (List.eq_nil_of_length_eq_zero (by omega))
  · exact .inr h1
theorem St12.entsY {B b : Nat} {ks : List Nat} {P : World → Prop} {xs rt : List (Value × List ElPairs)} {ys ri : List (Value × List ElEntries)} {w : World} {v : Value} {es : List Ent} (h : St12 B b ks P xs ys rt ri w) (hr : (v, es.map elOf) ∈ ys) (hp : ∀ x ∈ es, 0 ≤ x.s) : Row w 56 4 v es.length (cellsE es) := by
  obtain ⟨cs, VI, WI, rI, aI, VT, WT, rT, aT, G, h1, -⟩ := h.bk
  have hk : Row w 56 4 v (es.map elOf).length (cellsEntries (es.map elOf)) := (h1.1 (rwEntries (v, es.map elOf)) (by
    unfold bookL
    simp only [List.mem_append, List.mem_cons, List.mem_map]
    exact .inr (.inr (.inr (.inr (.inl ⟨_, hr, rfl⟩)))))).row rfl
  rw [cells_elN hp, List.length_map] at hk
  exact hk
theorem InL.toLs {w : World} {l : Option Addr} {ls : List SlE} (h : InL w l ls) : LsAt w l ls.length (ls.map SlE.es) := by
  refine ⟨by rw [List.length_map], ?_⟩
  rcases h.cell with h0 | ⟨b, off, e, hb, hc⟩
  · exact .inl (by rw [h0]; rfl)
  · refine .inr ⟨b, off, e, hb, fun i hi => ?_⟩
    have hi' : i < ls.length := by simpa using hi
    obtain ⟨h1, h2, -, h3⟩ := h.lists ls[i] (List.getElem_mem hi')
    refine ⟨ls[i].a, ls[i].cap, ?_, ?_, ?_⟩
    · rw [hc i hi', List.getElem_map]
      unfold SlE.val
      rw [h1]
    · rw [List.getElem_map, h1]
      exact h2
    · rw [List.getElem_map, h1]
      exact h3
set_option maxHeartbeats 8000000 in
set_option maxRecDepth 100000 in
theorem mergeTells_walkC {w : World} (l : Option Addr) (ln lc : Nat) (ls : List SlE) (seq most : Int) (hI : IsEss w l ln ls) :
    Calls Tryz.prog 3 #[.slice l ln lc, .int .u64 seq, .int .i64 most] w fun e w' => e = .returned (.bool true) ∧ Below w.heap.size w w' := by
  obtain ⟨j0, hj0, hy0, hys, hyb⟩ := info_parts infoL14
  have HAL := Lib.hid (alive14 allC latestC cutC)
  have HCA := Lib.hid allC
  have HCL := Lib.hid latestC
  have HCP := Lib.hid cutR
  have HIN := Lib.hid (inL_of hI)
  have HOK := Lib.hid (show ∀ s ∈ ls, (∀ x ∈ s.es, x.Ok) ∧ s.len ≤ 9223372036854775807 from fun s hs => ⟨(hI.2.2.1 s hs).1.2.1, by have := (hI.2.2.1 s hs).1.1; unfold maxLen at this; omega⟩)
  obtain rfl : ls.length = ln := hI.2.1
  clear hI
  go_enter Tryz.func3, Tryz.ntmps3
  by_cases h8 : 8 < ls.length
  · have h8' : (8 : Int) < (ls.length : Int) := by omega
    have h8d : decide ((8 : Int) < (ls.length : Int)) = true := by simp; omega
    go_wp2_with fail
    go_at_call 4
    refine (HAL.out _).mono ?_
    rintro _ w1 ⟨rfl, b1⟩
    go_wp2_with fail
    go_ret
    exact ⟨rfl, b1⟩
  have h8d : decide ((8 : Int) < (ls.length : Int)) = false := by simp; omega
  go_wp2_with fail
  go_loopw [7] (fun iv wr => ∃ i : Nat, iv = .int .i64 (i : Int) ∧ i ≤ ls.length ∧ Hid (∀ j s, j < i → ls[j]? = some s → s.es.length ≤ 60 ∧ s.es.Pairwise ltE ∧ ∀ x ∈ s.es, x.Short) ∧ Hid (Below w.heap.size w wr)) (fun iv _ => ls.length - (intOf iv).toNat)
  case atStart => exact ⟨0, rfl, Nat.zero_le _, Lib.hid (fun j s hj => by omega), Lib.hid (Below.refl _ _)⟩
  case round =>
    obtain ⟨i, rfl, hile, HG, HB⟩ := hrel
    obtain ⟨wo, hwo⟩ : ∃ wo, wo = wr := ⟨wr, rfl⟩
    subst hwo
    have HIN1 := Lib.hid (HIN.out.below HB.out)
    by_cases hlt : i < ls.length
    · have hmem : ls[i]? = some ls[i] := List.getElem?_eq_getElem hlt
      obtain ⟨b, off, rfl, hb, hc⟩ : ∃ b off, l = some ⟨b, off, none⟩ ∧ b < wo.heap.size ∧ wo.cell? ⟨b, off + i, none⟩ = some ls[i].val := by
        rcases HIN1.out.cell with h0 | ⟨b, off, e, h1, h2⟩
        · rw [h0] at hlt; cases hlt
        · exact ⟨b, off, e, h1, h2 i hlt⟩
      have hin := HIN1.out.lists ls[i] (List.getElem_mem hlt)
      obtain ⟨hok, hlm⟩ := HOK.out ls[i] (List.getElem_mem hlt)
      generalize ls[i] = s at hmem hc hin hok hlm
      obtain ⟨sa, sl, sc, es⟩ := s
      unfold SlE.val at hc
      simp only at hc hin hok hlm
      obtain ⟨hel, hE, -, -⟩ := hin
      subst hel
      have HMEM := Lib.hid hmem
      have RL := Lib.hid (reads_of hE)
      have HOKL := Lib.hid hok
      have hli : (i : Int) < (ls.length : Int) := by omega
      have C1 := Lib.hid (small_any sa es.length sc es RL.out.now hlm hok)
      clear hE hmem hok
      go_wp2_with fail
      go_at_call 5
      refine C1.out.mono ?_
      rintro _ w1 ⟨t, rfl, ht, b1⟩
      have hc2 : w1.cell? ⟨b, off + i, none⟩ = some (.slice sa es.length sc) := (b1.cell (p := ⟨b, _, none⟩) hb).trans hc
      have RL1 := Lib.hid (RL.out.next b1)
      have HW1 := Lib.hid (HB.out.trans (b1.mono HB.out.size))
      clear C1 RL b1
      cases t with
      | false =>
        clear ht
        go_wp2_with fail
        go_at_call 4
        refine (HAL.out _).mono ?_
        rintro _ w2 ⟨rfl, b2⟩
        go_wp2_with fail
        go_ret
        exact ⟨rfl, HW1.out.trans (b2.mono HW1.out.size)⟩
      | true =>
      obtain ⟨hl150, hsh⟩ := ht rfl
      have HSH := Lib.hid hsh
      clear hsh
      clear ht
      by_cases h60 : 60 < es.length
      · have h60' : (60 : Int) < (es.length : Int) := by omega
        have h60d : decide ((60 : Int) < (es.length : Int)) = true := by simp; omega
        go_wp2_with fail
        go_at_call 4
        refine (HAL.out _).mono ?_
        rintro _ w2 ⟨rfl, b2⟩
        go_wp2_with fail
        go_ret
        exact ⟨rfl, HW1.out.trans (b2.mono HW1.out.size)⟩
      have h60d : decide ((60 : Int) < (es.length : Int)) = false := by simp; omega
      have C2 := Lib.hid (ordered_any sa es.length sc es RL1.out.now (by omega) HOKL.out)
      go_wp2_with fail
      go_at_call 6
      refine C2.out.mono ?_
      rintro _ w2 ⟨t, rfl, ht, b2⟩
      have HW2 := Lib.hid (HW1.out.trans (b2.mono HW1.out.size))
      clear C2 b2
      cases t with
      | false =>
        clear ht
        go_wp2_with fail
        go_at_call 4
        refine (HAL.out _).mono ?_
        rintro _ w3 ⟨rfl, b3⟩
        go_wp2_with fail
        go_ret
        exact ⟨rfl, HW2.out.trans (b3.mono HW2.out.size)⟩
      | true =>
      have HS := Lib.hid (ord_pairT (ht rfl))
      have HGN := Lib.hid (show ∀ j s, j < i + 1 → ls[j]? = some s → s.es.length ≤ 60 ∧ s.es.Pairwise ltE ∧ ∀ x ∈ s.es, x.Short from fun j s hj hjl => by
        by_cases h : j < i
        · exact HG.out j s h hjl
        · obtain rfl : j = i := by omega
          rw [HMEM.out] at hjl
          cases hjl
          exact ⟨by simp only; omega, HS.out, HSH.out⟩)
      clear ht
      go_wp2_with fail
      go_roundw
      case rel => exact ⟨i + 1, by go_num, hlt, HGN, HW2⟩
      case measure => simp [intOf]; omega
    · obtain rfl : i = ls.length := by omega
      have HF := Lib.hid (show Fit ls from ⟨by omega, fun s hs => by
        obtain ⟨j, hj, rfl⟩ := List.mem_iff_getElem.1 hs
        obtain ⟨h1, h2, h3⟩ := HG.out j _ hj (List.getElem?_eq_getElem hj)
        exact ⟨h1, h2, fun x hx => ⟨(HOK.out _ (List.getElem_mem hj)).1 x hx, h3 x hx⟩⟩⟩)
      clear HG HOK HIN
      obtain ⟨wb, hwb⟩ : ∃ W, wo.alloc (.cells #[.slice none 0 0, .slice none 0 0, .slice none 0 0, .slice none 0 0, .slice none 0 0, .slice none 0 0, .slice none 0 0, .slice none 0 0, .slice none 0 0, .slice none 0 0, .slice none 0 0, .slice none 0 0, .slice none 0 0, .slice none 0 0, .slice none 0 0, .slice none 0 0, .slice none 0 0, .slice none 0 0, .slice none 0 0, .slice none 0 0, .slice none 0 0, .slice none 0 0, .slice none 0 0, .slice none 0 0, .slice none 0 0, .slice none 0 0, .slice none 0 0, .slice none 0 0] 42) = W := ⟨_, rfl⟩
      have HBK := Lib.hid (show St12 wo.heap.size wo.heap.size [] (fun _ => True) [] [] [] [] wb from by
        have h := Book.start (book_newB wo.heap.size wo (Nat.le_refl _))
        rw [hwb] at h
        exact ⟨h, List.nodup_nil, (fun k hk => by cases hk), trivial, fun _ _ _ _ => trivial, (below_alloc hwb).size⟩)
      have HBB := Lib.hid (below_alloc hwb)
      go_wp2_with fail
      go_loopw [9, 10, 11, 12, 13, 14, 15, 16, 17, 18] (fun kv _ _ _ _ _ _ _ _ _ wr => ∃ (k : Nat) (rt : List (Value × List ElPairs)) (ri ys0 : List (Value × List ElEntries)), kv = .int .i64 (k : Int) ∧ k ≤ 2 ∧ Hid (St12 wo.heap.size wo.heap.size [] (fun _ => True) [] ys0 rt ri wr) ∧ Hid (Below wo.heap.size wo wr)) (fun kv _ _ _ _ _ _ _ _ _ _ => 2 - (intOf kv).toNat)
      case atStart => exact ⟨0, [], [], [], rfl, Nat.zero_le _, HBK, HBB⟩
      case round =>
        obtain ⟨k, rt, ri, ys0, rfl, hk2, HST, HBW⟩ := hrel
        obtain ⟨w0, hw0⟩ : ∃ w0, w0 = wr := ⟨wr, rfl⟩
        subst hw0
        by_cases hkl : k < 2
        · have hki : (k : Int) < 2 := by omega
          have HIN0 := Lib.hid (HIN1.out.below HBW.out)
          go_wp2_with fail
          go_loopw [10, 11] (fun mv iv wr => ∃ (i : Nat) (V : Value) (xs : List Ln), V = mv ∧ iv = .int .i64 (i : Int) ∧ i ≤ ls.length ∧ xs.length = i ∧ Hid (xs.map Ln.es = (ls.take i).map SlE.es) ∧ Hid (LentL w0.heap.size wr V xs) ∧ Hid (Below w0.heap.size w0 wr)) (fun _ iv _ => ls.length - (intOf iv).toNat)
          case atStart => exact ⟨0, _, [], rfl, rfl, Nat.zero_le _, rfl, Lib.hid rfl, Lib.hid (LentL.nil _ _), Lib.hid (Below.refl _ _)⟩
          case round =>
            obtain ⟨i, V, xs, rfl, rfl, hile, hxi, HXE, HLL, HBL⟩ := hrel
            obtain ⟨w1, hw1⟩ : ∃ w1, w1 = wr := ⟨wr, rfl⟩
            subst hw1
            by_cases hlt : i < ls.length
            · have HINw := Lib.hid (HIN0.out.below HBL.out)
              have hmem : ls.take (i + 1) = ls.take i ++ [ls[i]] := by rw [List.take_add_one, List.getElem?_eq_getElem hlt]; rfl
              obtain ⟨b, off, rfl, hb, hc⟩ : ∃ b off, l = some ⟨b, off, none⟩ ∧ b < w1.heap.size ∧ w1.cell? ⟨b, off + i, none⟩ = some ls[i].val := by
                rcases HINw.out.cell with h0 | ⟨b, off, e, h1, h2⟩
                · rw [h0] at hlt; cases hlt
                · exact ⟨b, off, e, h1, h2 i hlt⟩
              have hin := HINw.out.lists ls[i] (List.getElem_mem hlt)
              have hfit := (HF.out.2 ls[i] (List.getElem_mem hlt)).1
              generalize ls[i] = s at hmem hc hin hfit
              obtain ⟨sa, sl, sc, es⟩ := s
              unfold SlE.val at hc
              simp only at hc hin hfit
              obtain ⟨hel, hE, hnil, -⟩ := hin
              subst hel
              have HMEM := Lib.hid hmem
              have CLE := Lib.hid (lentE_any sa sc es w1 (src_ents hE hnil) (by omega))
              have hli : (i : Int) < (ls.length : Int) := by omega
              clear hmem hE hnil
              go_wp2_with fail
              go_at_call 7
              refine CLE.out.mono ?_
              rintro _ w2 ⟨g, c, rfl, hrow, hg, b2⟩
              obtain ⟨W2, hW2⟩ : ∃ W, w2.alloc (.cells #[.slice (some ⟨g, 0, none⟩) es.length (c + 1)] 26) = W := ⟨_, rfl⟩
              have hA2 := below_alloc hW2
              have HB2 := Lib.hid (HBL.out.trans ((b2.trans (hA2.mono b2.size)).mono HBL.out.size))
              have HL2 := Lib.hid ((HLL.out.below b2).below hA2)
              have hxg : g < w2.heap.size := hrow.lt g rfl
              have HX2 := Lib.hid (show LentEs W2 g c es from (LentEs.mk hrow).keep (hA2.block _ hxg))
              have hxg2 : g < W2.heap.size := Nat.lt_of_lt_of_le hxg hA2.size
              have HXN := Lib.hid (show (∀ y ∈ xs, y.g ≠ g) ∧ ob V ≠ some g from ⟨fun y hy e => by have := HLL.out.lt hy; omega, fun e => by have := HLL.out.row.lt g e; omega⟩)
              have hgB : w0.heap.size ≤ g := Nat.le_trans HBL.out.size hg
              have HS2 := Lib.hid (Src.ofSlice (P := Tryz.prog) W2 (size := 1) Tryz.underlying22 ⟨w2.heap.size, 0, none⟩ 1 1 [.slice (some ⟨g, 0, none⟩) es.length (c + 1)] rfl (fun j u hu => by
                match j, hu with
                | 0, hu =>
                  rw [← hW2]
                  simp only [List.getElem?_cons_zero, Option.some.injEq] at hu
                  subst hu
                  exact nce (j := 0) (by simp) (by rfl)) (by simp [Value.oneCell']))
              have hl8 := HF.out.1
              have HBc := Lib.hid (show xs.length + 1 ≤ maxLen by unfold maxLen; omega)
              have HBd := Lib.hid (show (xs.length + 1) * 24 ≤ 140737488355328 by omega)
              clear hA2 hrow b2 HLL CLE hxg
              go_wp2_with (at_builtin; refine wpList_append_row _ rfl _ _ 22 22 rfl 26 j0 _ 1 24 Tryz.underlying22 hj0 hy0 hys hyb rfl V _ _ rfl HL2.out.row _ rfl 1 _ HS2.out HBc.out HBd.out ?_)
              intro V3 w3 hrow3 hgrow3 hob3
              rw [← hxi] at hrow3
              have HB3 := Lib.hid (below_row HB2.out (Nat.le_refl _) hgrow3 HL2.out.newV)
              have HL3 := Lib.hid (HL2.out.put (x := ⟨g, c, es⟩) HB2.out.size HX2.out hgB hxg2 HXN.out.1 HXN.out.2 hrow3 hgrow3 hob3)
              have HXE3 := Lib.hid (show (xs ++ [(⟨g, c, es⟩ : Ln)]).map Ln.es = (ls.take (i + 1)).map SlE.es by rw [HMEM.out, List.map_append, List.map_append, HXE.out]; rfl)
              clear hrow3 hgrow3 hob3 HL2 HB2 HX2 HS2 hW2 HXN
              go_wp2_with fail
              go_roundw
              case rel => exact ⟨i + 1, V3, xs ++ [⟨g, c, es⟩], rfl, by go_num, hlt, by simp; omega, HXE3, HL3, HB3⟩
              case measure => simp [intOf]; omega
            · obtain rfl : i = ls.length := by omega
              obtain ⟨am, cm, rfl, hLm⟩ := HLL.out.lists
              have hxe : xs.map Ln.es = ls.map SlE.es := by have h := HXE.out; rw [List.take_length] at h; exact h
              rw [hxe] at hLm
              have hlen : (ls.map SlE.es).flatten.length ≤ 480 := by
                have h1 : ∀ l' : List SlE, (∀ s ∈ l', s.es.length ≤ 60) → (l'.map SlE.es).flatten.length ≤ l'.length * 60 := by
                  intro l'
                  induction l' with
                  | nil => intro _; simp
                  | cons s l' ih =>
                    intro h
                    have h2 := ih fun s hs => h s (List.mem_cons_of_mem _ hs)
                    have h3 := h s (by simp)
                    rw [List.map_cons, List.flatten_cons, List.length_append, List.length_cons]
                    omega
                have h2 := h1 ls fun s hs => (HF.out.2 s hs).1
                have h3 := HF.out.1
                omega
              have hsort : SortedL (ls.map SlE.es) := fun l' hl' => by
                obtain ⟨s, hs, rfl⟩ := List.mem_map.1 hl'
                exact (HF.out.2 s hs).2
              have HLm := Lib.hid hLm
              have HSL := Lib.hid hsort
              have HXS := Lib.hid hxe
              have h8l : xs.length ≤ 8 := by have := HF.out.1; omega
              clear hLm hsort hxe HXE
              obtain ⟨LS, hLS⟩ : ∃ LS, ls.map SlE.es = LS := ⟨_, rfl⟩
              rw [hLS] at HLm HSL hlen HXS
              have HLS := Lib.hid hLS
              clear hLS
              have hC1 := HCA.out am xs.length cm LS w1 HLm.out h8l (by omega) HSL.out
              rw [hxi] at hC1
              have C1 := Lib.hid hC1
              have HST1 := Lib.hid ((HST.out.more HBL.out (LentL.ks (.slice am xs.length cm) xs) (fun W => LentL w0.heap.size W (.slice am xs.length cm) xs) HLL.out.nodup HLL.out.bounds HLL.out (fun _ _ hk h => h.stay hk)))
              clear hC1
              go_wp2_with fail
              go_at_call 8
              refine C1.out.mono ?_
              rintro _ w5 ⟨v5, rfl, hN5, b5⟩
              have hLm5 := HLm.out.below b5
              have hC2 := HCL.out seq am xs.length cm LS w5 hLm5 h8l (by omega) HSL.out
              rw [hxi] at hC2
              have C2 := Lib.hid hC2
              have HN5 := Lib.hid hN5
              have HB5 := Lib.hid b5
              clear hC2 hLm5 hN5 b5 C1
              go_wp2_with fail
              go_at_call 9
              refine C2.out.mono ?_
              rintro _ w6 ⟨v6, rfl, hN6, b6⟩
              have HN6 := Lib.hid hN6
              have HB6 := Lib.hid b6
              have hI6 := ((HIN0.out.below HBL.out).below HB5.out).below b6
              have hLs := hI6.toLs
              rw [HLS.out] at hLs
              have C3 := Lib.hid (rall_any l ls.length lc LS w6 hLs (by omega) (by omega) (fun l' hl' x hx => ((HSL.out l' hl').2 x hx).1.1))
              clear hN6 b6 hI6 hLs C2
              go_wp2_with fail
              go_at_call 10
              refine C3.out.mono ?_
              rintro _ w7 ⟨v7, rfl, hO7, b7⟩
              have hps : ∀ x ∈ allE LS.flatten, 0 ≤ x.s := fun x hx => by
                obtain ⟨l', hl', hx'⟩ := List.mem_flatten.1 ((allE_mem _ x).1 hx).mem
                exact ((HSL.out l' hl').2 x hx').1.2.1
              have hal : (allE LS.flatten).length ≤ 480 := Nat.le_trans (allE_length _) hlen
              have HPS := Lib.hid hps
              have hS7 := ((HST1.out.rowI HB5.out HN5.out hps).rowT HB6.out HN6.out).rowI b7 ⟨hO7.row, hO7.new⟩ hps
              have HS7 := Lib.hid hS7
              have HW7 := Lib.hid (((HBL.out.trans (HB5.out.mono HBL.out.size)).trans (HB6.out.mono (Nat.le_trans HBL.out.size HB5.out.size))).trans (b7.mono (Nat.le_trans HBL.out.size (Nat.le_trans HB5.out.size HB6.out.size))))
              have HW7b := Lib.hid (HBW.out.trans (HW7.out.mono HBW.out.size))
              have CA1 := Lib.hid (hS7.addI (A := [(v7, (allE LS.flatten).map elOf)]) (C := ys0) (by rw [List.length_map]; omega))
              clear hps hS7 hO7 b7 HN5 HN6 C3
              go_wp2_with fail
              go_at_call 11
              refine CA1.out.mono ?_
              rintro _ w8 ⟨rfl, hS8, b8⟩
              have HS8 := Lib.hid hS8
              have HW8 := Lib.hid (HW7b.out.trans b8)
              have CA2 := Lib.hid (hS8.addT (A := []) (C := []) (by rw [List.length_map]; exact Nat.le_trans (latE_length _ _) (by omega)))
              clear hS8 b8 CA1
              go_wp2_with fail
              go_at_call 12
              refine CA2.out.mono ?_
              rintro _ w9 ⟨rfl, hS9, b9⟩
              have HS9 := Lib.hid hS9
              have HW9 := Lib.hid (HW8.out.trans b9)
              obtain ⟨a5, c5, h5, hE5⟩ := row_ents (hS9.ents (es := allE LS.flatten) (v := v5) (by simp) HPS.out)
              obtain ⟨a7, c7, h7, hE7⟩ := row_ents (hS9.entsY (es := allE LS.flatten) (v := v7) (by simp) HPS.out)
              obtain ⟨a6, c6, h6, hQ6⟩ := row_q (hS9.pairs (ts := latE seq (allE LS.flatten)) (v := v6) (by simp))
              subst h5 h7 h6
              have HE5 := Lib.hid (reads_of hE5)
              have HE7 := Lib.hid (reads_of hE7)
              have HQ6 := Lib.hid (show QsAt w9 a6 (latE seq (allE LS.flatten)) from hQ6)
              have S1 := Lib.hid (same_ents a5 a7 c5 c7 (allE LS.flatten) w9 hE5 hE7 (by omega))
              have hI9 := HIN1.out.below HW9.out
              have HI9 := Lib.hid hI9
              clear hS9 b9 hE5 hE7 hQ6 CA2 hI9
              go_wp2_with fail
              go_at_call 13
              refine S1.out.mono ?_
              rintro _ w10 ⟨rfl, b10⟩
              have hLs := (HI9.out.below b10).toLs
              rw [HLS.out] at hLs
              have C4 := Lib.hid (rlatest_any seq l ls.length lc LS w10 hLs (by omega) (by omega) (fun l' hl' x hx => ((HSL.out l' hl').2 x hx).1.1))
              have HB10 := Lib.hid b10
              clear hLs b10 S1
              go_wp2_with fail
              go_at_call 15
              refine C4.out.mono ?_
              rintro _ w11 ⟨v11, rfl, hN11, b11⟩
              obtain ⟨a11, c11, rfl, hQ11⟩ := row_q hN11.row
              have S2 := Lib.hid (sameQ_any a6 a11 c6 c11 (latE seq (allE LS.flatten)) w11 ((HQ6.out.below HB10.out).below b11) hQ11 (Nat.le_trans (latE_length _ _) (by omega)))
              have HB11 := Lib.hid (HB10.out.trans (b11.mono HB10.out.size))
              clear hN11 hQ11 b11 C4
              go_wp2_with fail
              go_at_call 14
              refine S2.out.mono ?_
              rintro _ w12 ⟨rfl, b12⟩
              have HW12 := Lib.hid (HB11.out.trans (b12.mono HB11.out.size))
              have HS12 := Lib.hid (HS9.out.below HW12.out)
              have HFN := Lib.hid (show ∀ x ∈ allE LS.flatten, x.Fine from fun x hx => by
                obtain ⟨l', hl', hx'⟩ := List.mem_flatten.1 ((allE_mem _ x).1 hx).mem
                exact (HSL.out l' hl').2 x hx')
              have C5 := Lib.hid (HCP.out most a7 c7 (allE LS.flatten) w12 (HE7.out w12 HW12.out) (by omega) HFN.out)
              have HW12w := Lib.hid (HW9.out.trans (HW12.out.mono (by have := HS9.out.sz; exact this)))
              clear b12 S2
              go_wp2_with fail
              go_at_call 16
              refine C5.out.mono ?_
              rintro _ w13 ⟨O, vs, rfl, hP, b13⟩
              obtain ⟨D, hD⟩ : ∃ D, cutS most [] (allE LS.flatten) = D := ⟨_, rfl⟩
              rw [hD] at hP
              have HDI := Lib.hid (show (∀ d ∈ D, ∀ x ∈ d, x ∈ allE LS.flatten) ∧ D.length ≤ 480 ∧ ∀ d ∈ D, d.length ≤ 480 from by
                rw [← hD]
                refine ⟨fun d hd => cutS_in hd, Nat.le_trans (cutS_count _ _ _) hal, fun d hd => ?_⟩
                have h1 := len_in hd
                rw [cutS_all] at h1
                omega)
              have hHD := hD
              have HHD := Lib.hid hHD
              have C6 := Lib.hid (rcutR most a7 c7 (allE LS.flatten) w13 (HE7.out w13 (HW12.out.trans (b13.mono HW12.out.size))) (by omega))
              have HS13 := Lib.hid (HS12.out.rowsO b13 hP (fun d hd x hx => HPS.out x (HDI.out.1 d hd x hx)))
              have HP13 := Lib.hid hP
              have HB13 := Lib.hid b13
              obtain ⟨aO, cO, hO, -⟩ := hP.told
              subst hO
              clear hP b13 C5 hD hHD
              go_wp2_with fail
              go_at_call 17
              refine C6.out.mono ?_
              rintro _ w14 ⟨O2, vs2, rfl, hP2, b14⟩
              rw [HHD.out] at hP2
              have HS14 := Lib.hid (HS13.out.rowsO b14 hP2 (fun d hd x hx => HPS.out x (HDI.out.1 d hd x hx)))
              have HP14 := Lib.hid hP2
              have HB14 := Lib.hid b14
              obtain ⟨aR, cR, hO2, -⟩ := hP2.told
              subst hO2
              have HW14 := Lib.hid (HW12w.out.trans (((HB13.out.trans (b14.mono HB13.out.size)).mono (by exact HS12.out.sz))))
              clear hP2 b14 C6
              go_wp2_with fail
              obtain ⟨KS, PP, rt9, ri9, ys9, hS, hPP⟩ : ∃ KS PP rt9 ri9 ys9, St12 wo.heap.size wo.heap.size KS PP [] (vs2.zip (D.map (List.map elOf)) ++ (vs.zip (D.map (List.map elOf)) ++ ys9)) rt9 ri9 w14 ∧ ∀ W, PP W → LentL w0.heap.size W (.slice am xs.length cm) xs ∧ Row W 26 1 (.slice aO D.length cO) vs.length vs ∧ Row W 26 1 (.slice aR D.length cR) vs2.length vs2 := ⟨_, _, _, _, _, HS14.out, fun W h => ⟨h.1.1.2, h.1.2, h.2⟩⟩
              have HSL4 := Lib.hid hS
              have HPP := Lib.hid hPP
              have HVL := Lib.hid (show vs.length = D.length ∧ vs2.length = D.length from ⟨HP13.out.len, HP14.out.len⟩)
              clear hS hPP HS14 HS13 HS12
              go_loopw [17] (fun iv wr => ∃ (i : Nat) (ri2 : List (Value × List ElEntries)), iv = .int .i64 (i : Int) ∧ i ≤ D.length ∧ Hid (St12 wo.heap.size wo.heap.size KS PP [] (vs2.zip (D.map (List.map elOf)) ++ ((vs.drop i).zip ((D.drop i).map (List.map elOf)) ++ ys9)) rt9 ri2 wr) ∧ Hid (Below wo.heap.size wo wr)) (fun iv _ => D.length - (intOf iv).toNat)
              case atStart => exact ⟨0, ri9, rfl, Nat.zero_le _, HSL4, HW14⟩
              case round =>
                obtain ⟨i, ri2, rfl, hile, HS4, HW4⟩ := hrel
                obtain ⟨w15, hw15⟩ : ∃ w15, w15 = wr := ⟨wr, rfl⟩
                subst hw15
                by_cases hiD : i < D.length
                · have hiv : i < vs.length := by rw [HVL.out.1]; exact hiD
                  have hiv2 : i < vs2.length := by rw [HVL.out.2]; exact hiD
                  obtain ⟨gO, rfl, hcO⟩ := row_at (HPP.out w15 HS4.out.p).2.1 (by omega)
                  obtain ⟨gR, rfl, -⟩ := row_at (HPP.out w15 HS4.out.p).2.2 (by omega)
                  obtain ⟨V1, hV1⟩ : ∃ V1, vs[i] = V1 := ⟨_, rfl⟩
                  obtain ⟨V2, hV2⟩ : ∃ V2, vs2[i] = V2 := ⟨_, rfl⟩
                  obtain ⟨d, hd⟩ : ∃ d, D[i] = d := ⟨_, rfl⟩
                  have hdm : d ∈ D := by rw [← hd]; exact List.getElem_mem hiD
                  have k0 := hcO i V1 (by rw [List.getElem?_eq_getElem hiv, hV1])
                  have hS4 := HS4.out
                  rw [List.drop_eq_getElem_cons hiv, List.drop_eq_getElem_cons hiD, List.map_cons, List.zip_cons_cons, List.cons_append, hV1, hd] at hS4
                  have hdp : ∀ x ∈ d, 0 ≤ x.s := fun x hx => HPS.out x (HDI.out.1 d hdm x hx)
                  obtain ⟨a1, c1, hv1, -⟩ := row_ents (hS4.entsY (es := d) (v := V1) (by simp) hdp)
                  have hz2 : (V2, d.map elOf) ∈ vs2.zip (D.map (List.map elOf)) := by
                    rw [← hV2, ← hd]
                    refine List.mem_iff_getElem.2 ⟨i, by simp; omega, ?_⟩
                    rw [List.getElem_zip, List.getElem_map]
                  obtain ⟨a2, c2, hv2, -⟩ := row_ents (hS4.entsY (es := d) (v := V2) (List.mem_append_left _ hz2) hdp)
                  have hdl := HDI.out.2.2 d hdm
                  have CE := Lib.hid (hS4.addI (by rw [List.length_map]; omega))
                  subst hv1 hv2
                  have HK1 := Lib.hid (show vs[i]? = some (.slice a1 d.length c1) by rw [List.getElem?_eq_getElem hiv, hV1])
                  have HK2 := Lib.hid (show vs2[i]? = some (.slice a2 d.length c2) by rw [List.getElem?_eq_getElem hiv2, hV2])
                  have HDP := Lib.hid hdp
                  have HZ2 := Lib.hid hz2
                  have hli : (i : Int) < (D.length : Int) := by omega
                  have hld : decide ((i : Int) < (D.length : Int)) = true := by simp; omega
                  have HIV := Lib.hid (show i < vs.length ∧ i < vs2.length from ⟨hiv, hiv2⟩)
                  have hdl0 : d.length ≤ 480 := hdl
                  clear hV1 hV2 hS4 hdp hz2 hcO hd hdm hiv hiv2 hdl
                  go_wp2_with fail
                  go_at_call 11
                  refine CE.out.mono ?_
                  rintro _ w16 ⟨rfl, hS16, b16⟩
                  have HS16 := Lib.hid hS16
                  obtain ⟨gO', eO, hcO⟩ := row_at (HPP.out w16 hS16.p).2.1 (by have := HIV.out; omega)
                  obtain ⟨gR', eR, hcR⟩ := row_at (HPP.out w16 hS16.p).2.2 (by have := HIV.out; omega)
                  cases eO
                  cases eR
                  have k1 := hcO i (.slice a1 d.length c1) HK1.out
                  have k2 := hcR i (.slice a2 d.length c2) HK2.out
                  obtain ⟨b1', d1', h1', hE1⟩ := row_ents (hS16.ents (es := d) (v := .slice a1 d.length c1) (by simp) HDP.out)
                  obtain ⟨b2', d2', h2', hE2⟩ := row_ents (hS16.entsY (es := d) (v := .slice a2 d.length c2) (List.mem_append_left _ HZ2.out) HDP.out)
                  cases h1'
                  cases h2'
                  have CSE := Lib.hid (same_ents a1 a2 c1 c2 d w16.drew hE1 hE2 (by omega))
                  have HK16 := Lib.hid (show w16.drew.cell? ⟨gO, i, none⟩ = some (.slice a1 d.length c1) ∧ w16.drew.cell? ⟨gR, i, none⟩ = some (.slice a2 d.length c2) from ⟨k1, k2⟩)
                  have HB16 := Lib.hid (HW4.out.trans b16)
                  clear hS16 b16 CE hcO hcR hE1 hE2 k0
                  go_wp2_with fail
                  go_region_held3 (fun W => W.cell? ⟨gO, i, none⟩ = some (.slice a1 d.length c1) ∧ W.cell? ⟨gR, i, none⟩ = some (.slice a2 d.length c2)) (first | exact HK16.out | exact HK17.out | fail) (first | (go_at_call 13; refine CSE.out.mono ?_; rintro e w17 ⟨rfl, b17⟩; have HB17 := Lib.hid b17; have HK17 := Lib.hid (show w17.cell? ⟨gO, i, none⟩ = some (.slice a1 d.length c1) ∧ w17.cell? ⟨gR, i, none⟩ = some (.slice a2 d.length c2) from ⟨(b17.cell (p := ⟨gO, i, none⟩) (lt_of_cell HK16.out.1)).trans HK16.out.1, (b17.cell (p := ⟨gR, i, none⟩) (lt_of_cell HK16.out.2)).trans HK16.out.2⟩); clear b17) | fail)
                  have hb17 : Below w16.heap.size w16 w17 := (Below.refl _ _).drew.trans HB17.out
                  have HS17 := Lib.hid (HS16.out.below hb17)
                  have HW17 := Lib.hid (HB16.out.trans (hb17.mono HB16.out.size))
                  clear hb17
                  have hD480 := HDI.out.2.1
                  have hwi : IntKind.i64.wrap ((i : Int) + 1) = (i : Int) + 1 := by rw [IntKind.wrap_i64]; omega
                  go_wp2_with fail
                  go_roundw
                  case rel => exact ⟨i + 1, _, by go_num, hiD, HS17, HW17⟩
                  case measure => simp [intOf]; omega
                · obtain rfl : i = D.length := by omega
                  have HS18 := Lib.hid HS4.out
                  go_wp2_with fail
                  go_loopw [18] (fun iv wr => ∃ i : Nat, iv = .int .i64 (i : Int) ∧ i ≤ ls.length ∧ Hid (Below w15.heap.size w15 wr)) (fun iv _ => ls.length - (intOf iv).toNat)
                  case atStart => exact ⟨0, rfl, Nat.zero_le _, Lib.hid (Below.refl _ _)⟩
                  case round =>
                    obtain ⟨i, rfl, hile2, HB18⟩ := hrel
                    obtain ⟨w18, hw18⟩ : ∃ w18, w18 = wr := ⟨wr, rfl⟩
                    subst hw18
                    have HIN8 := Lib.hid (HIN1.out.below (HW4.out.trans (HB18.out.mono HW4.out.size)))
                    have HLL8 := Lib.hid ((HPP.out w15 HS4.out.p).1.below HB18.out)
                    by_cases hlt : i < ls.length
                    · have hix : i < xs.length := by omega
                      obtain ⟨b, off, rfl, hb, hc⟩ : ∃ b off, l = some ⟨b, off, none⟩ ∧ b < w18.heap.size ∧ w18.cell? ⟨b, off + i, none⟩ = some ls[i].val := by
                        rcases HIN8.out.cell with h0 | ⟨b, off, e, h1, h2⟩
                        · rw [h0] at hlt; cases hlt
                        · exact ⟨b, off, e, h1, h2 i hlt⟩
                      have hin := HIN8.out.lists ls[i] (List.getElem_mem hlt)
                      have hfit := HF.out.2 ls[i] (List.getElem_mem hlt)
                      have hx := (HLL8.out.each xs[i] (List.getElem_mem hix)).1
                      obtain ⟨gM, rfl, hcM⟩ := row_at HLL8.out.row (by omega)
                      have k3 := hcM i xs[i].val (by rw [List.getElem?_map, List.getElem?_eq_getElem hix]; rfl)
                      have hes : xs[i].es = ls[i].es := by
                        have h1 : (xs.map Ln.es)[i]? = LS[i]? := by rw [HXS.out]
                        rw [← HLS.out, List.getElem?_map, List.getElem?_map, List.getElem?_eq_getElem hix, List.getElem?_eq_getElem hlt] at h1
                        exact Option.some.inj h1
                      generalize xs[i] = X at hx k3 hes
                      generalize ls[i] = s at hc hin hfit hes
                      obtain ⟨xg, xc, xes⟩ := X
                      obtain ⟨sa, sl, sc, es⟩ := s
                      unfold SlE.val at hc
                      unfold Ln.val at k3
                      simp only at hc hin hfit hes k3 hx
                      subst hes
                      obtain ⟨hel, hE, -, -⟩ := hin
                      subst hel
                      have CST := Lib.hid (staysE_any xg xc sa sc xes w18.drew (hx.keep rfl) hE (fun x hx => (hfit.2.2 x hx).1.2.1) (by have := hfit.1; omega))
                      have HK8 := Lib.hid (show w18.drew.cell? ⟨gM, i, none⟩ = some (.slice (some ⟨xg, 0, none⟩) xes.length (xc + 1)) ∧ w18.drew.cell? ⟨b, off + i, none⟩ = some (.slice sa xes.length sc) from ⟨k3, hc⟩)
                      have hli : (i : Int) < (ls.length : Int) := by omega
                      have hld : decide ((i : Int) < (ls.length : Int)) = true := by simp; omega
                      clear hc hE hx hfit k3 hcM
                      go_wp2_with fail
                      go_region_held3 (fun W => W.cell? ⟨gM, i, none⟩ = some (.slice (some ⟨xg, 0, none⟩) xes.length (xc + 1)) ∧ W.cell? ⟨b, off + i, none⟩ = some (.slice sa xes.length sc)) (first | exact HK8.out | exact HK9.out | fail) (first | (go_at_call 18; refine CST.out.mono ?_; rintro e w19 ⟨rfl, b19⟩; have HB19 := Lib.hid b19; have HK9 := Lib.hid (show w19.cell? ⟨gM, i, none⟩ = some (.slice (some ⟨xg, 0, none⟩) xes.length (xc + 1)) ∧ w19.cell? ⟨b, off + i, none⟩ = some (.slice sa xes.length sc) from ⟨(b19.cell (p := ⟨gM, i, none⟩) (lt_of_cell HK8.out.1)).trans HK8.out.1, (b19.cell (p := ⟨b, off + i, none⟩) (lt_of_cell HK8.out.2)).trans HK8.out.2⟩); clear b19) | fail)
                      have HB20 := Lib.hid (HB18.out.trans (((Below.refl w18.heap.size w18).drew.trans HB19.out).mono HB18.out.size))
                      go_wp2_with fail
                      go_roundw
                      case rel => exact ⟨i + 1, by go_num, hlt, HB20⟩
                      case measure => simp [intOf]; omega
                    · obtain rfl : i = ls.length := by omega
                      have HS20 := Lib.hid ((HS18.out.below HB18.out).free)
                      have HW20 := Lib.hid (HW4.out.trans (HB18.out.mono HW4.out.size))
                      have hki2 : k + 1 ≤ 2 := by omega
                      go_wp2_with fail
                      go_roundw
                      case rel => exact ⟨k + 1, _, _, _, by go_num, hki2, HS20, HW20⟩
                      case measure => simp [intOf]; omega
        · obtain rfl : k = 2 := by omega
          have C9 := Lib.hid (HAL.out w0)
          go_wp2_with fail
          go_at_call 4
          refine C9.out.mono ?_
          rintro _ w8 ⟨rfl, b8⟩
          have HS8 := Lib.hid (HST.out.below b8)
          have C10 := Lib.hid (HS8.out.bk.apart HS8.out.sz)
          have HW8 := Lib.hid (HBW.out.trans (b8.mono HBW.out.size))
          clear b8
          go_wp2_with fail
          go_at_call 19
          refine C10.out.mono ?_
          rintro _ w9 ⟨rfl, b9⟩
          go_wp2_with fail
          go_ret
          exact ⟨rfl, HB.out.trans ((HW8.out.trans b9).mono HB.out.size)⟩
theorem mergeTells_walk (a : Option Addr) (len cap : Nat) (ls : List SlE) (x : Nat) (_ : x ≤ 18446744073709551615) (y : Int) (_ : -9223372036854775808 ≤ y) (_ : y ≤ 9223372036854775807) (w : World) (hI : IsEss w a len ls) :
    Calls Tryz.prog 3 #[.slice a len cap, .int .u64 (x : Int), .int .i64 y] w fun e w' => e = .returned (.bool true) ∧ Below w.heap.size w w' :=
  mergeTells_walkC a len cap ls x y hI
end Go.Proofs.YtcbailiniigcnaaGreat
