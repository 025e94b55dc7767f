/- Statement MemSees. -/
import Derived.Test.YthaalhigmihijabM5
import Derived.Test.YthaalhigmihijabMT
namespace Go.Proofs.Ythaalhigmihijab
open Go.RowKit

theorem vers_snoc : ∀ (ws : List Wr) (f : Nat) (x : Wr), vers f (ws ++ [x]) = vers f ws ++ [verE x (f + ws.length)]
  | [], f, x => rfl
  | y :: r, f, x => by
    have := vers_snoc r (f + 1) x
    show verE y f :: vers (f + 1) (r ++ [x]) = verE y f :: vers (f + 1) r ++ [verE x (f + (r.length + 1))]
    rw [this, show f + 1 + r.length = f + (r.length + 1) by omega]
    rfl
theorem wrs_one {n₀ b : Nat} {w : World} {x : Wr} (hb : b < n₀) (hc : ∀ j u, x.cells[j]? = some u → w.cell? ⟨b, j, none⟩ = some u) : WrsAt n₀ w (some ⟨b, 0, none⟩) 1 [x] :=
  ⟨rfl, .inr ⟨b, 0, rfl, hb, fun i hi j u hu => by
    obtain rfl : i = 0 := by simpa using hi
    have := hc j u hu
    rw [show 0 + 0 * 3 + j = j by omega]
    exact this⟩⟩
/-- One write more, at the next number. -/
theorem add_one {B p la : Nat} {ds : List Int} {L : List Ent} {ns : List Nd} {w : World} (h : Mem B p ds L la ns w) (S : Nat) (hS : S = la + 1) (b cap : Nat) (x : Wr) (hx : x.Ok) (hb : b < w.heap.size) (hbf : b ∉ foot p ns) (hc : ∀ j u, x.cells[j]? = some u → w.cell? ⟨b, j, none⟩ = some u) (hL : L.length ≤ 50000) (hds : ds.length ≤ 1000000) (hla : la < 1000000) :
    Calls Try.prog 20 #[.pointer (some ⟨p, 0, none⟩), .int .u64 (S : Int), .slice (some ⟨b, 0, none⟩) 1 cap] w fun e w' => ∃ ns', Turn (foot p ns) w w' ∧ (∀ k ∈ foot p ns', k ∈ foot p ns ∨ w.heap.size ≤ k) ∧ ((wrOk x = false ∧ e = .returned (.tuple #[.int .u64 0, .int .i64 1]) ∧ Mem B p ds L la ns' w') ∨ (wrOk x = true ∧ e = .returned (.tuple #[.int .u64 ((S + 1 : Nat) : Int), .int .i64 0]) ∧ Mem B p ds (L ++ [verE x S]) S ns' w')) := by
  refine (memAdd_any h S (some ⟨b, 0, none⟩) 1 cap [x] (wrs_one hb hc) (fun y hy => by rw [List.mem_singleton] at hy; rw [hy]; exact hx) (fun b' off e _ => by cases e; exact hbf) (by omega) (by omega) hL hds (by omega)).mono ?_
  rintro e w' ⟨rfl, ns', hm, ht, hf, -⟩
  refine ⟨ns', ht, hf, ?_⟩
  cases hw : wrOk x with
  | false =>
    have hn := addOk_no (addOk_bad (la := la) (first := S) (ws := [x]) (.inl (by simp [wrsOk, hw]))) L
    rw [hn.2.1, hn.2.2] at hm
    exact .inl ⟨rfl, by rw [hn.1], hm⟩
  | true =>
    have hn := addOk_yes (addOk_of (la := la) (first := S) (ws := [x]) (by simp [wrsOk, hw]) (by omega) (by simp; omega)) L
    rw [hn.2.1, hn.2.2] at hm
    exact .inr ⟨rfl, by rw [hn.1]; rfl, hm⟩
/-- What was written last of a key by the first i writes. -/
def Seen (key : ByteArray) (ws : List Wr) (i : Nat) (th : Bool) (v : ByteArray) (d : Bool) : Prop :=
  (th = false ∧ v = ⟨#[]⟩ ∧ d = false ∧ ∀ j x, j < i → ws[j]? = some x → x.k ≠ key) ∨
  (th = true ∧ ∃ j x, j < i ∧ ws[j]? = some x ∧ x.k = key ∧ v = x.v ∧ d = x.d ∧ ∀ j' y, j < j' → j' < i → ws[j']? = some y → y.k ≠ key)
theorem seen_zero (key : ByteArray) (ws : List Wr) : Seen key ws 0 false ⟨#[]⟩ false := .inl ⟨rfl, rfl, rfl, fun j x h => by omega⟩
theorem seen_yes {key : ByteArray} {ws : List Wr} {i : Nat} {x : Wr} (hg : ws[i]? = some x) (hk : x.k = key) : Seen key ws (i + 1) true x.v x.d :=
  .inr ⟨rfl, i, x, by omega, hg, hk, rfl, rfl, fun j' y h1 h2 => by omega⟩
theorem seen_no {key : ByteArray} {ws : List Wr} {i : Nat} {x : Wr} {th d : Bool} {v : ByteArray} (h : Seen key ws i th v d) (hg : ws[i]? = some x) (hk : x.k ≠ key) : Seen key ws (i + 1) th v d := by
  rcases h with ⟨h1, h2, h3, h4⟩ | ⟨h1, j, y, h2, h3, h4, h5, h6, h7⟩
  · refine .inl ⟨h1, h2, h3, fun j z hj hz => ?_⟩
    by_cases hji : j = i
    · subst hji
      rw [hg] at hz
      rw [← Option.some.inj hz]
      exact hk
    · exact h4 j z (by omega) hz
  · refine .inr ⟨h1, j, y, by omega, h3, h4, h5, h6, fun j' z a b hz => ?_⟩
    by_cases hji : j' = i
    · subst hji
      rw [hg] at hz
      rw [← Option.some.inj hz]
      exact hk
    · exact h7 j' z a (by omega) hz
theorem vers_at {ws : List Wr} {f j : Nat} {x : Wr} (h : ws[j]? = some x) : verE x (f + j) ∈ vers f ws := by
  have hl := (List.getElem?_eq_some_iff.1 h).1
  have := vers_get ws f j hl
  rw [List.getElem?_eq_getElem hl] at h
  rw [Option.some.inj h] at this
  exact List.mem_of_getElem? this
theorem vers_mem2 {ws : List Wr} {f : Nat} {e : Ent} (h : e ∈ vers f ws) : ∃ j x, ws[j]? = some x ∧ e = verE x (f + j) := by
  obtain ⟨i, hi, rfl⟩ := vers_mem h
  exact ⟨i, ws[i], List.getElem?_eq_getElem hi, rfl⟩
/-- What Get tells behind all writes, at the number of the i-th. -/
theorem seen_get {B p la i : Nat} {ds : List Int} {key : ByteArray} {ws : List Wr} {ns P Q : List Nd} {w : World} {th d : Bool} {v : ByteArray} (h : Mem B p ds (vers 1 ws) la ns w) (hs : Seen key ws (i + 1) th v d) (hc : Cut key ((i + 1 : Nat) : Int) ns P Q) :
    (th = false ∧ getR key Q = none) ∨ (th = true ∧ ∃ s : Int, getR key Q = some ⟨key, s, if d then 2 else 1, v⟩) := by
  rcases hs with ⟨h1, h2, h3, h4⟩ | ⟨h1, j, x, h2, h3, h4, h5, h6, h7⟩
  · refine .inl ⟨h1, get_no hc fun e he hk hle => ?_⟩
    obtain ⟨j, x, hx, rfl⟩ := vers_mem2 ((h.mem e).1 he)
    simp only [verE] at hk hle
    exact h4 j x (by omega) hx hk
  · refine .inr ⟨h1, ((1 + j : Nat) : Int), ?_⟩
    have := get_is (x := verE x (1 + j)) h.tab.skp.right.ord hc ((h.mem _).2 (vers_at h3)) h4 (by simp only [verE]; omega) (fun e he hk hle => ?_)
    · rw [this, h5, h6, ← h4]
      rfl
    · obtain ⟨j', y, hy, rfl⟩ := vers_mem2 ((h.mem e).1 he)
      simp only [verE] at hk hle ⊢
      by_cases hjj : j < j'
      · exact absurd hk (h7 j' y hjj (by omega) hy)
      · omega
set_option maxHeartbeats 4000000 in
set_option maxRecDepth 100000 in
theorem memSees_walk (a : Option Addr) (len cap : Nat) (ws : List Wr) (key : ByteArray) (hks : key.size ≤ maxLen) (w : World) (hI : IsWs w a len ws) :
    Calls Try.prog 6 #[.slice a len cap, .string key] w fun e w' => e = .returned (.bool true) ∧ Below w.heap.size w w' := by
  have CS := Lib.hid (smallW_any a len cap ws hI.2.2 (by have := hI.1; unfold maxLen at this; omega) hI.2.1)
  have CA := Lib.hid alive8_any
  have HE := Lib.hid hI.2.2
  have HOK := Lib.hid hI.2.1
  have hel : ws.length = len := hI.2.2.1
  unfold maxLen at hks
  clear hI
  go_enter Try.func6, Try.ntmps6
  go_wp2_with (fail)
  go_at_call 18
  refine CS.out.mono ?_
  rintro _ w1 ⟨t, rfl, hfew, b1⟩
  have HB1 := Lib.hid b1
  clear b1
  cases t with
  | false =>
    clear hfew
    go_wp2_with (go_at_call 19; refine (CA.out _).mono ?_; rintro _ w2 ⟨rfl, b2⟩)
    go_ret
    exact ⟨rfl, HB1.out.trans (b2.mono HB1.out.size)⟩
  | true =>
    obtain ⟨hlen, hsz⟩ := hfew rfl
    rw [hel] at hlen
    have HSZ := Lib.hid hsz
    clear hfew hsz
    by_cases h0 : len = 0
    · subst h0
      clear hel
      go_wp2_with (go_at_call 19; refine (CA.out _).mono ?_; rintro _ w2 ⟨rfl, b2⟩)
      go_ret
      exact ⟨rfl, HB1.out.trans (b2.mono HB1.out.size)⟩
    have d0 : ((len : Int) == 0) = false := by rw [beq_eq_false_iff_ne]; omega
    have d0' : (len == 0) = false := by rw [beq_eq_false_iff_ne]; omega
    by_cases hk3 : key.size ≤ 300
    case neg =>
      have d1 : decide (300 < (key.size : Int)) = true := by simp; omega
      have d1' : decide (300 < key.size) = true := by simp; omega
      go_wp2_with (go_at_call 19; refine (CA.out _).mono ?_; rintro _ w2 ⟨rfl, b2⟩)
      go_ret
      exact ⟨rfl, HB1.out.trans (b2.mono HB1.out.size)⟩
    have d1 : decide (300 < (key.size : Int)) = false := by simp; omega
    have d1' : decide (300 < key.size) = false := by simp; omega
    obtain ⟨W, hW⟩ : ∃ W, w1.alloc (.cells #[.int .i64 2, .int .i64 1, .int .i64 4] 3) = W := ⟨_, rfl⟩
    have hB : Below w1.heap.size w1 W := by rw [← hW]; exact (Below.refl _ _).alloc (Nat.le_refl _) _
    have CN := Lib.hid (memNew_any (.slice (some ⟨w1.heap.size, 0, none⟩) 3 3) [2, 1, 4] W (intsV_plain w1.heap.size 0 3 [2, 1, 4] (fun j u hu => by
      rw [← hW]
      match j, hu with
      | 0, hu => exact ncell rfl hu
      | 1, hu => exact ncell rfl hu
      | 2, hu => exact ncell rfl hu)) (by simp))
    have HW := Lib.hid (HB1.out.trans (hB.mono HB1.out.size))
    clear hB
    go_wp2_with (fail)
    (with_reducible refine CN.out.mono ?_)
    rintro _ w2 ⟨p, rfl, ht, b2⟩
    clear hW
    have H2 := Lib.hid (tab_mem ht)
    have HB2 := Lib.hid (HW.out.trans (b2.mono HW.out.size))
    have HWS := Lib.hid HW.out.size
    clear ht b2
    go_wp2_with (fail)
    go_loopw [6] (fun iv wr => ∃ (i : Nat) (ns : List Nd), iv = .int .i64 (i : Int) ∧ i ≤ len ∧ Mem W.heap.size p [2, 1, 4] (vers 1 (ws.take i)) i ns wr ∧ Below w.heap.size w wr) (fun iv _ => len - (intOf iv).toNat)
    case atStart => exact ⟨0, [], rfl, Nat.zero_le _, H2.out, HB2.out⟩
    case round =>
      obtain ⟨i, ns, rfl, hil0, hm, hbl⟩ := hrel
      by_cases hlt : i < len
      · have hil : (i : Int) < (len : Int) := by omega
        obtain ⟨b, off, rfl, hblt, ⟨K, V, D⟩, hget, hcell⟩ : ∃ b off, a = some ⟨b, off, none⟩ ∧ b < w.heap.size ∧ ∃ x : Wr, ws[i]? = some x ∧ ∀ j u, x.cells[j]? = some u → wr.cell? ⟨b, off + i * 3 + j, none⟩ = some u := by
          rcases (HE.out.below hbl).2 with h0 | ⟨b, off, e, h1, h2⟩
          · omega
          · exact ⟨b, off, e, h1, ws[i]'(by omega), List.getElem?_eq_getElem (by omega), h2 i (by omega)⟩
        have q0 : wr.cell? ⟨b, off + i * 3, none⟩ = some (.string K) := hcell 0 _ rfl
        have q1 : wr.cell? ⟨b, off + i * 3 + 1, none⟩ = some (.string V) := hcell 1 _ rfl
        have q2 : wr.cell? ⟨b, off + i * 3 + 2, none⟩ = some (.bool D) := hcell 2 _ rfl
        have hbx : ∀ o : Obj, Below wr.heap.size wr (wr.alloc o) := fun o => (Below.refl _ _).alloc (Nat.le_refl _) _
        have hnf : wr.heap.size ∉ foot p ns := fun hx => by have := hm.tab.skp.lst.lt _ hx; omega
        obtain ⟨S, hS⟩ : ∃ S, S = i + 1 := ⟨_, rfl⟩
        have C1 := Lib.hid (add_one (hm.below (hbx (.cells #[.string K, .string V, .bool D] 52))) S hS wr.heap.size 1 ⟨K, V, D⟩ (HOK.out _ (List.mem_of_getElem? hget)) (by simp) hnf (fun j u hu => by
          match j, hu with
          | 0, hu => exact ncell rfl hu
          | 1, hu => exact ncell rfl hu
          | 2, hu => exact ncell rfl hu) (by rw [vers_length, List.length_take]; omega) (by simp) (by omega))
        have hw1 : IntKind.u64.wrap ((i : Int) + 1) = (S : Int) := by rw [IntKind.wrap_u64]; omega
        obtain ⟨R, hR⟩ : ∃ R : Nat, S + 1 = R := ⟨_, rfl⟩
        rw [hR] at C1
        have hw2 : IntKind.u64.wrap ((i : Int) + 2) = (R : Int) := by rw [IntKind.wrap_u64]; omega
        have HNX := Lib.hid (show vers 1 (ws.take i) ++ [verE ⟨K, V, D⟩ S] = vers 1 (ws.take (i + 1)) by
          rw [List.take_add_one, hget]
          show _ = vers 1 (ws.take i ++ [_])
          rw [vers_snoc, List.length_take, hS]
          congr 2
          rw [show 1 + min i ws.length = i + 1 by omega])
        have HB := Lib.hid hbl
        have HS := Lib.hid hS
        have HBX := Lib.hid hbx
        have HBS := Lib.hid hm.tab.skp.base
        have HMS := Lib.hid (show w.heap.size ≤ W.heap.size from HWS.out)
        clear hcell hget hbl hm hbx hnf hR hS
        go_wp2_with (fail)
        (with_reducible refine C1.out.mono ?_)
        rintro e w4 ⟨ns', ht4, -, h⟩
        have hB4 : Below w.heap.size w w4 := (HB.out.trans ((HBX.out _).mono HB.out.size)).trans (ht4.below (Nat.le_trans HB.out.size (HBX.out _).size) (fun k hk => Nat.le_trans HMS.out (HBS.out k hk)))
        have HB4 := Lib.hid hB4
        clear hB4 ht4
        rcases h with ⟨-, rfl, -⟩ | ⟨-, rfl, hm4⟩
        · go_wp2_with (go_at_call 19; refine (CA.out _).mono ?_; rintro _ w5 ⟨rfl, b5⟩)
          go_ret
          exact ⟨rfl, HB4.out.trans (b5.mono HB4.out.size)⟩
        · have HM4 := Lib.hid hm4
          clear hm4
          go_wp2
          go_roundw
          case rel => exact ⟨i + 1, ns', by go_num, by omega, by rw [← HNX.out, ← HS.out]; exact HM4.out, HB4.out⟩
          case measure => simp [intOf]; omega
      · obtain rfl : i = len := by omega
        rw [List.take_of_length_le (by omega)] at hm
        have HM := Lib.hid hm
        have HB := Lib.hid hbl
        clear hm hbl
        go_wp2_with (fail)
        obtain ⟨w3, rfl⟩ : ∃ w3, w3 = wr := ⟨_, rfl⟩
        go_loopw [9, 10, 11, 12] (fun tv vv dv iv wr => ∃ (j : Nat) (th d : Bool) (v : ByteArray), tv = .bool th ∧ vv = .string v ∧ dv = .bool d ∧ iv = .int .i64 (j : Int) ∧ j ≤ i ∧ Seen key ws j th v d ∧ Below w3.heap.size w3 wr) (fun _ _ _ iv _ => i - (intOf iv).toNat)
        case atStart => exact ⟨0, false, false, ⟨#[]⟩, rfl, rfl, rfl, rfl, Nat.zero_le _, seen_zero _ _, Below.refl _ _⟩
        case round =>
          obtain ⟨j, th, d, v, rfl, rfl, rfl, rfl, hj0, hseen, hbr⟩ := hrel
          have hbw : Below w.heap.size w wr := HB.out.trans (hbr.mono HB.out.size)
          by_cases hlt : j < i
          · have hjl : (j : Int) < (i : Int) := by omega
            obtain ⟨b, off, rfl, hblt, ⟨K, V, D⟩, hget, hcell⟩ : ∃ b off, a = some ⟨b, off, none⟩ ∧ b < w.heap.size ∧ ∃ x : Wr, ws[j]? = some x ∧ ∀ q u, x.cells[q]? = some u → wr.cell? ⟨b, off + j * 3 + q, none⟩ = some u := by
              rcases (HE.out.below hbw).2 with h0 | ⟨b, off, e, h1, h2⟩
              · omega
              · exact ⟨b, off, e, h1, ws[j]'(by omega), List.getElem?_eq_getElem (by omega), h2 j (by omega)⟩
            have q0 : wr.cell? ⟨b, off + j * 3, none⟩ = some (.string K) := hcell 0 _ rfl
            have q1 : wr.cell? ⟨b, off + j * 3 + 1, none⟩ = some (.string V) := hcell 1 _ rfl
            have q2 : wr.cell? ⟨b, off + j * 3 + 2, none⟩ = some (.bool D) := hcell 2 _ rfl
            have HSN := Lib.hid hseen
            have HG := Lib.hid hget
            have HBW := Lib.hid hbw
            have HBR := Lib.hid hbr
            clear hcell hseen hget hbw hbr
            obtain ⟨w5, rfl⟩ : ∃ w5, w5 = wr := ⟨_, rfl⟩
            obtain ⟨bk, hbk⟩ : ∃ bk, (K.toList == key.toList) = bk := ⟨_, rfl⟩
            have HBK := Lib.hid hbk
            go_upto_if 72 with fail
            clear hbk
            go_cut [9, 10, 11] from 66 to 82 (fun tv vv dv wx => ∃ (th d : Bool) (v : ByteArray), tv = .bool th ∧ vv = .string v ∧ dv = .bool d ∧ Seen key ws (j + 1) th v d ∧ Below w5.heap.size w5 wx)
            case first =>
              cases bk with
              | true =>
                have HF := Lib.hid (seen_yes HG.out (str_eq HBK.out))
                go_wp2_with fail
                go_quiet (fail)
                go_wp2
                go_meet
                exact ⟨true, D, V, rfl, rfl, rfl, HF.out, belowN (Below.refl _ _) _⟩
              | false =>
                have HF := Lib.hid (seen_no HSN.out HG.out (str_neq HBK.out))
                go_wp2_with fail
                go_meet
                exact ⟨th, d, v, rfl, rfl, rfl, HF.out, Below.refl _ _⟩
            case rest =>
              clear q0 q1 q2
              obtain ⟨th', d', v', rfl, rfl, rfl, hs', hb'⟩ := hcut
              have hm := (HM.out.below (HBR.out.trans (hb'.mono HBR.out.size)))
              obtain ⟨P, Q, hc⟩ := cut_of key ((j + 1 : Nat) : Int) ns hm.tab.skp.right.ord
              have hg := seen_get hm hs' hc
              have CG := memGet_any hm.tab hc
              obtain ⟨S, hS⟩ : ∃ S : Nat, S = j + 1 := ⟨_, rfl⟩
              rw [← hS] at CG
              have hw1 : IntKind.u64.wrap ((j : Int) + 1) = (S : Int) := by rw [IntKind.wrap_u64]; omega
              have HS' := Lib.hid hs'
              have HB' := Lib.hid hb'
              clear hS hs' hb' hm hc
              rcases hg with ⟨rfl, hg⟩ | ⟨rfl, sq, hg⟩
              · rw [hg] at CG
                unfold getV Ent.val ev at CG
                have CG := Lib.hid CG
                clear hg
                go_wp2_with (fail)
                (with_reducible refine CG.out.mono ?_)
                rintro e w6 ⟨rfl, b6⟩
                have hb7 := b6.alloc b6.size (.cells #[.string ⟨#[]⟩, .int .u64 0, .int .i64 0, .string ⟨#[]⟩] 30)
                have HB7 := Lib.hid (HB'.out.trans (hb7.mono HB'.out.size))
                clear b6 hb7
                go_wp2
                go_roundw
                case rel => exact ⟨j + 1, _, _, _, rfl, rfl, rfl, by go_num, by omega, HS'.out, HBR.out.trans (HB7.out.mono HBR.out.size)⟩
                case measure => simp [intOf]; omega
              · rw [hg] at CG
                unfold getV Ent.val ev at CG
                have CG := Lib.hid CG
                clear hg
                have hvv : (v'.toList == v'.toList) = true := by simp
                cases d'
                all_goals
                  go_wp2_with (fail)
                  (with_reducible refine CG.out.mono ?_)
                  rintro e w6 ⟨rfl, b6⟩
                  have hb7 := fun o => b6.alloc b6.size o
                  have HB7 := Lib.hid (fun o => HB'.out.trans ((hb7 o).mono HB'.out.size))
                  clear b6 hb7
                  go_wp2
                  go_roundw
                  case rel => exact ⟨j + 1, _, _, _, rfl, rfl, rfl, by go_num, by omega, HS'.out, HBR.out.trans ((HB7.out _).mono HBR.out.size)⟩
                  case measure => simp [intOf]; omega
          · obtain rfl : j = i := by omega
            have HBW := Lib.hid hbw
            clear hseen hbr hbw
            go_wp2_with (go_at_call 19; refine (CA.out _).mono ?_; rintro _ w5 ⟨rfl, b5⟩)
            go_ret
            exact ⟨rfl, HBW.out.trans (b5.mono HBW.out.size)⟩
end Go.Proofs.Ythaalhigmihijab
