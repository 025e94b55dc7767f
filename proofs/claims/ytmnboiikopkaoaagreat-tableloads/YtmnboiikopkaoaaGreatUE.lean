/- Joined: UI UJ UL UM. -/
import Derived.Test.YtmnboiikopkaoaaGreatUF
import Derived.Test.YtmnboiikopkaoaaGreatUC
import Derived.Test.YtmnboiikopkaoaaGreatZR
import Derived.Deep.RegionLaw
namespace Go.Proofs.YtmnboiikopkaoaaGreat
open Go.RowKit

set_option maxHeartbeats 1000000 in
theorem blocksOf_any (n : Nat) (w : World) (h : n ≤ 1000000000) : Calls Tryz.prog 39 #[.int .i64 (n : Int)] w fun e w' => e = .returned (.int .i64 (((n + 7) / 8 : Nat) : Int)) ∧ w = w' := by
  obtain ⟨m, hm⟩ : ∃ m, (n + 7) / 8 = m := ⟨_, rfl⟩
  have hd : ((n : Int) + 8 - 1).tdiv 8 = (m : Int) := by rw [Int.tdiv_eq_ediv_of_nonneg (by omega)]; omega
  have hd2 : ((n : Int) + 8 - 1) / 8 = (m : Int) := by omega
  rw [hm]
  clear hm
  go_enter Tryz.func39, Tryz.ntmps39
  go_wp2
  go_ret
  exact ⟨rfl, rfl⟩
def isFilB (f : List UInt8) : Bool := gvalidB f && decide ((gbyteAt f (f.length - 1)).toNat = 4)
set_option maxHeartbeats 1000000 in
theorem isFilter_any (f : ByteArray) (w : World) (hf : f.size ≤ 1000000) : Calls Tryz.prog 52 #[.string f] w fun e w' => e = .returned (.bool (isFilB f.data.toList)) ∧ w = w' := by
  have CV := Lib.hid (gvalid_any f w (by omega))
  unfold isFilB
  cases hv : gvalidB f.data.toList with
  | false =>
    rw [hv] at CV
    go_enter Tryz.func52, Tryz.ntmps52
    go_wp2_with (go_at_call 85; (with_reducible refine CV.out.mono ?_); rintro _ w1 ⟨rfl, rfl⟩)
    go_ret
    exact ⟨rfl, rfl⟩
  | true =>
    rw [hv] at CV
    have h2 : 2 ≤ f.size := by
      have : 2 ≤ f.data.toList.length ∧ _ := of_decide_eq_true hv
      rw [len_data'] at this
      exact this.1
    obtain ⟨m, hm⟩ : ∃ m, f.size = m + 1 := ⟨f.size - 1, by omega⟩
    have e1 : (f.size : Int) - 1 = (m : Int) := by omega
    have hml : m < f.size := by omega
    have hmI : (m : Int) < (f.size : Int) := by omega
    have HB := Lib.hid (byteAt_string f m hml)
    have HM := Lib.hid (show f.data.toList.length - 1 = m by rw [len_data']; omega)
    cases hq : ((f[m].toNat : Int) == 4) with
    | false =>
      have hq2 : decide ((gbyteAt f.data.toList (f.data.toList.length - 1)).toNat = 4) = false := by
        rw [HM.out, HB.out, decide_eq_false_iff_not]
        intro e
        rw [e] at hq
        simp at hq
      rw [hq2]
      clear hm hq2 h2 hv
      go_enter Tryz.func52, Tryz.ntmps52
      go_wp2_with (go_at_call 85; (with_reducible refine CV.out.mono ?_); rintro _ w1 ⟨rfl, rfl⟩)
      go_ret
      exact ⟨rfl, rfl⟩
    | true =>
      have hq2 : decide ((gbyteAt f.data.toList (f.data.toList.length - 1)).toNat = 4) = true := by
        rw [HM.out, HB.out, decide_eq_true_eq]
        have := LawfulBEq.eq_of_beq hq
        omega
      rw [hq2]
      clear hm hq2 h2 hv
      go_enter Tryz.func52, Tryz.ntmps52
      go_wp2_with (go_at_call 85; (with_reducible refine CV.out.mono ?_); rintro _ w1 ⟨rfl, rfl⟩)
      go_ret
      exact ⟨rfl, rfl⟩
/-- May a filter of so many bytes be that of so many versions? -/
def fitsB (size versions : Nat) : Bool := decide (size = (max (min (min versions (size * 8 / 10)) 104857 * 10) 64 + 7) / 8)
set_option maxHeartbeats 2000000 in
theorem fits_any (f : ByteArray) (n : Nat) (w : World) (hf : f.size ≤ 1000000) (h1 : 1 ≤ f.size) (hn : n ≤ 1000000000) : Calls Tryz.prog 54 #[.string f, .int .i64 (n : Int)] w fun e w' => e = .returned (.bool (fitsB (f.size - 1) n)) ∧ w = w' := by
  obtain ⟨m, hm⟩ : ∃ m, f.size = m + 1 := ⟨f.size - 1, by omega⟩
  have e1 : (f.size : Int) - 1 = (m : Int) := by omega
  rw [show f.size - 1 = m by omega]
  have hml : m ≤ 1000000 := by omega
  obtain ⟨d, hd⟩ : ∃ d, m * 8 / 10 = d := ⟨_, rfl⟩
  have e2 : ((m : Int) * 8).tdiv 10 = (d : Int) := by rw [Int.tdiv_eq_ediv_of_nonneg (by omega)]; omega
  have e2b : ((m : Int) * 8) / 10 = (d : Int) := by omega
  obtain ⟨k, hk⟩ : ∃ k, min (min n d) 104857 = k := ⟨_, rfl⟩
  obtain ⟨M, hM⟩ : ∃ M, max (k * 10) 64 = M := ⟨_, rfl⟩
  obtain ⟨c, hc⟩ : ∃ c, (M + 7) / 8 = c := ⟨_, rfl⟩
  have e3 : ((M : Int) + 7).tdiv 8 = (c : Int) := by rw [Int.tdiv_eq_ediv_of_nonneg (by omega)]; omega
  have e3b : ((M : Int) + 7) / 8 = (c : Int) := by omega
  have hmin : ∀ (ts : Array TypeId) (t : TypeId) (w : World), (Builtin.min_ ts t #[.int .i64 (n : Int), .int .i64 (d : Int), .int .i64 104857]).run Tryz.prog w = .ok (.int .i64 (k : Int)) w := fun ts t w => by
    rw [run_min_int3]
    congr 2
    split <;> split at * <;> omega
  have hmax : ∀ (ts : Array TypeId) (t : TypeId) (w : World), (Builtin.max_ ts t #[.int .i64 ((k : Int) * 10), .int .i64 64]).run Tryz.prog w = .ok (.int .i64 (M : Int)) w := fun ts t w => by
    rw [run_max_int2]
    congr 2
    split <;> omega
  have hkl : k ≤ 104857 := by omega
  have hMl : M ≤ 1048570 := by omega
  have hfit : fitsB m n = ((m : Int) == (c : Int)) := by
    unfold fitsB
    rw [hd, hk, hM, hc]
    by_cases hq : m = c
    · subst hq; simp
    · rw [decide_eq_false hq]
      symm
      simpa using (fun h => hq (by omega))
  have HF := Lib.hid hfit
  clear hm hd hk hM hc hfit h1 hf
  go_enter Tryz.func54, Tryz.ntmps54
  go_wp2
  go_ret
  exact ⟨by rw [HF.out]; rfl, rfl⟩
set_option maxHeartbeats 1000000 in
theorem pr_end {w : World} {b : Nat} {l : List UInt8} {e : Int} (h : Rdr w b l e) :
    Calls Tryz.prog 90 #[.pointer (some ⟨b, 0, none⟩)] w fun x w' => x = .returned (.int .i64 (if e ≠ 0 then e else if l.length = 0 then 0 else 4)) ∧ w = w' := by
  have C1 := Lib.hid (pr_err h)
  by_cases he : e = 0
  · subst he
    have C2 := Lib.hid (pr_left h)
    rw [if_neg (by simp)]
    by_cases hl : l.length = 0
    · rw [if_pos hl]
      rw [hl] at C2
      clear h hl
      go_enter Tryz.func90, Tryz.ntmps90
      go_wp2_with (first | (go_at_call 120; (with_reducible refine C1.out.mono ?_); rintro _ w1 ⟨rfl, rfl⟩) | (go_at_call 124; (with_reducible refine C2.out.mono ?_); rintro _ w2 ⟨rfl, rfl⟩) | fail)
      go_ret
      exact ⟨rfl, rfl⟩
    · rw [if_neg hl]
      have hd : decide ((0 : Int) < (l.length : Int)) = true := by simp; omega
      have hd2 : 0 < l.length := by omega
      clear h hl
      go_enter Tryz.func90, Tryz.ntmps90
      go_wp2_with (first | (go_at_call 120; (with_reducible refine C1.out.mono ?_); rintro _ w1 ⟨rfl, rfl⟩) | (go_at_call 124; (with_reducible refine C2.out.mono ?_); rintro _ w2 ⟨rfl, rfl⟩) | fail)
      go_ret
      exact ⟨rfl, rfl⟩
  · rw [if_pos he]
    have hd : (e != 0) = true := by simpa using he
    clear h he
    go_enter Tryz.func90, Tryz.ntmps90
    go_wp2_with (first | (go_at_call 120; (with_reducible refine C1.out.mono ?_); rintro _ w1 ⟨rfl, rfl⟩) | fail)
    go_ret
    exact ⟨rfl, rfl⟩
theorem trip3 {α β : Type} {x : α × β × Int} (h : x.2.2 = 0) : x = (x.1, x.2.1, 0) := by
  obtain ⟨a, b, c⟩ := x
  simp only at h
  subst h
  rfl
/-- One row of an index: the first key, the length of the block, and what is left; the place must be at. -/
def rdPart (size at_ : Nat) (l : List UInt8) : Option (List UInt8 × Nat × List UInt8) :=
  let t := rdT 300 l 0
  let f := rdC (at_ : Int) t.2.1 t.2.2
  let z := rdC ((size : Int) - (at_ : Int)) f.2.1 f.2.2
  if z.2.2 ≠ 0 ∨ f.1 ≠ at_ then none else some (t.1, z.1, z.2.1)
def partV : Option (List UInt8 × Nat × List UInt8) → ByteArray → Nat → Value
  | none, _, _ => .tuple #[.agg #[.string ⟨#[]⟩, .string ⟨#[]⟩], .bool false]
  | some (k, n, _), b, a => .tuple #[.agg #[.string ⟨k.toArray⟩, .string (b.extract a (a + n))], .bool true]
theorem rdPart_some {size at_ n : Nat} {l k r : List UInt8} (h : rdPart size at_ l = some (k, n, r)) (_ha : at_ ≤ size) : at_ + n ≤ size ∧ r.length < l.length ∧ k.length ≤ 300 := by
  unfold rdPart at h
  simp only at h
  split at h
  · cases h
  · rename_i hq
    simp only [Option.some.injEq, Prod.mk.injEq] at h
    obtain ⟨rfl, rfl, rfl⟩ := h
    have hz : (rdC ((size : Int) - (at_ : Int)) (rdC (at_ : Int) (rdT 300 l 0).2.1 (rdT 300 l 0).2.2).2.1 (rdC (at_ : Int) (rdT 300 l 0).2.1 (rdT 300 l 0).2.2).2.2).2.2 = 0 := Classical.not_not.1 fun h => hq (.inl h)
    have hf := rdC_sticks hz
    have ht := rdC_sticks hf
    rw [ht] at hf hz ⊢
    rw [hf] at hz ⊢
    have e3 := rdC_eats (l := (rdC (at_ : Int) (rdT 300 l 0).2.1 0).2.1) (trip3 hz)
    have e2 := rdC_eats (l := (rdT 300 l 0).2.1) (trip3 hf)
    have e1 := rdT_eats (trip3 ht)
    omega
theorem Rdr.keep2 {w : World} {b R : Nat} {l : List UInt8} {e : Int} {u v : Value} (h : Rdr w b l e) (hR : R ≠ b) : Rdr ((w.setCell ⟨R, 0, none⟩ u).setCell ⟨R, 1, none⟩ v) b l e :=
  h.kept ((heap_setCell_other _ ⟨R, 1, none⟩ b _ (fun e => hR e.symm)).trans (heap_setCell_other _ ⟨R, 0, none⟩ b _ (fun e => hR e.symm)))
/-- A part's box, empty. -/
def BoxP (R : Nat) (w : World) : Prop := w.heap[R]? = some (.cells #[.string ⟨#[]⟩, .string ⟨#[]⟩] 76)
section
variable {R : Nat} {w w' : World}
theorem BoxP.lt (h : BoxP R w) : R < w.heap.size := (Array.getElem?_eq_some_iff.1 h).1
theorem BoxP.c0 (h : BoxP R w) : w.cell? ⟨R, 0, none⟩ = some (.string ⟨#[]⟩) := by unfold World.cell?; rw [show w.heap[R]? = _ from h]; rfl
theorem BoxP.c1 (h : BoxP R w) : w.cell? ⟨R, 1, none⟩ = some (.string ⟨#[]⟩) := by unfold World.cell?; rw [show w.heap[R]? = _ from h]; rfl
theorem BoxP.f (h : BoxP R w) (j : Nat) : w.frozen? ⟨R, j, none⟩ = false := by unfold World.frozen?; rw [show w.heap[R]? = _ from h]; simp
theorem BoxP.grown {b : Nat} (h : BoxP R w) (hg : w.grownBy w' (some b)) (hR : R ≠ b) : BoxP R w' := (hg.block R h.lt (fun e => hR (by cases e; rfl))).trans h
end
set_option maxHeartbeats 4000000 in
set_option maxRecDepth 100000 in
theorem readPart_any {w : World} {b : Nat} {l : List UInt8} (h : Rdr w b l 0) (B : ByteArray) (at_ : Nat) (ha : at_ ≤ B.size) (hB : B.size ≤ 1000000000) :
    Calls Tryz.prog 88 #[.pointer (some ⟨b, 0, none⟩), .string B, .int .i64 (at_ : Int)] w fun x w' => x = .returned (partV (rdPart B.size at_ l) B at_) ∧ (∀ k n r, rdPart B.size at_ l = some (k, n, r) → Rdr w' b r 0) ∧ Turn [b] w w' := by
  have hblt := h.lt
  obtain ⟨W, hW⟩ : ∃ W, w.alloc (.cells #[.string ⟨#[]⟩, .string ⟨#[]⟩] 76) = W := ⟨_, rfl⟩
  have hBW : Below w.heap.size w W := by rw [← hW]; exact (Below.refl _ _).alloc (Nat.le_refl _) _
  have xW : BoxP w.heap.size W := by rw [← hW]; exact new_block _ _ rfl
  obtain ⟨t1, t2, t3, hT⟩ : ∃ t1 t2 t3, rdT 300 l 0 = (t1, t2, t3) := ⟨_, _, _, rfl⟩
  obtain ⟨f1, f2, f3, hF⟩ : ∃ t1' t2' t3', rdC (at_ : Int) t2 t3 = (t1', t2', t3') := ⟨_, _, _, rfl⟩
  obtain ⟨z1, z2, z3, hZ⟩ : ∃ t1' t2' t3', rdC ((B.size : Int) - (at_ : Int)) f2 f3 = (t1', t2', t3') := ⟨_, _, _, rfl⟩
  have hP : rdPart B.size at_ l = if z3 ≠ 0 ∨ f1 ≠ at_ then none else some (t1, z1, z2) := by
    unfold rdPart
    simp only [hT, hF, hZ]
  have HPS := Lib.hid (fun k n r h => rdPart_some (size := B.size) (at_ := at_) (l := l) (k := k) (n := n) (r := r) h ha)
  generalize rdPart B.size at_ l = D at hP HPS ⊢
  have HP := Lib.hid hP
  obtain ⟨R, hR⟩ : ∃ R, w.heap.size = R := ⟨_, rfl⟩
  have HR := Lib.hid hR
  rw [hR] at xW
  have hRb : R ≠ b := by omega
  have HRB := Lib.hid hRb
  have HLE := Lib.hid (show w.heap.size ≤ R by omega)
  have C1 := Lib.hid (pr_text 300 (by omega) (h.below hBW hblt))
  rw [hT] at C1
  have C2 := Lib.hid (fun (W' : World) (h' : Rdr W' b t2 t3) => pr_count (at_ : Int) (by omega) h')
  rw [hF] at C2
  have C3 := Lib.hid (fun (W' : World) (h' : Rdr W' b f2 f3) => pr_count ((B.size : Int) - (at_ : Int)) (by omega) h')
  rw [hZ] at C3
  simp only at C1 C2 C3
  have HX := Lib.hid xW
  have HTW := Lib.hid (turn_of_below (F := [b]) hBW)
  have hb63 : B.size ≤ 9223372036854775807 := by omega
  have hsub : IntKind.i64.wrap ((B.size : Int) - (at_ : Int)) = (B.size : Int) - (at_ : Int) := by rw [IntKind.wrap_i64]; omega
  clear h hT hF hZ hP xW hBW hR hblt hRb
  go_enter Tryz.func88, Tryz.ntmps88
  go_upto_region 1 with fail
  try rw [hW]
  try rw [HR.out]
  clear hW
  go_wp2_with fail
  go_at_call 89
  refine C1.out.mono ?_
  rintro _ w1 ⟨rfl, r1, g1⟩
  have HX1 := Lib.hid (HX.out.grown g1 HRB.out)
  have HT1 := Lib.hid (HTW.out.trans (turn_of_grown (F := [b]) g1 (fun k hk => .inl (by cases hk; simp))) (fun _ h => .inl h))
  have D2 := Lib.hid (C2.out w1 r1)
  clear C1 C2 HX HTW r1 g1
  go_wp2_with fail
  go_at_call 87
  refine D2.out.mono ?_
  rintro _ w2 ⟨rfl, r2, g2⟩
  have HX2 := Lib.hid (HX1.out.grown g2 HRB.out)
  have HT2 := Lib.hid (HT1.out.trans (turn_of_grown (F := [b]) g2 (fun k hk => .inl (by cases hk; simp))) (fun _ h => .inl h))
  have D3 := Lib.hid (C3.out w2 r2)
  clear C3 D2 HX1 HT1 r2 g2
  go_wp2_with fail
  go_at_call 87
  refine D3.out.mono ?_
  rintro _ w3 ⟨rfl, r3, g3⟩
  have HX3 := Lib.hid (HX2.out.grown g3 HRB.out)
  have HT3 := Lib.hid (HT2.out.trans (turn_of_grown (F := [b]) g3 (fun k hk => .inl (by cases hk; simp))) (fun _ h => .inl h))
  have D4 := Lib.hid (pr_err r3)
  have HR3 := Lib.hid r3
  have x3 := HX3.out
  have c0 := x3.c0
  have c1 := x3.c1
  have f0 := x3.f 0
  have fr1 := x3.f 1
  clear D3 HX2 HT2 r3 g3 x3
  by_cases hz : z3 = 0
  · subst hz
    by_cases hf : f1 = at_
    · subst hf
      have hD := HP.out
      rw [if_neg (by simp)] at hD
      subst hD
      have hps := HPS.out _ _ _ rfl
      obtain ⟨m, hm⟩ : ∃ m, f1 + z1 = m := ⟨_, rfl⟩
      have hmI : (f1 : Int) + (z1 : Int) = (m : Int) := by omega
      have h1 : (m : Int) ≤ (B.size : Int) := by omega
      have h2 : (f1 : Int) ≤ (m : Int) := by omega
      have HM := Lib.hid hm
      clear hm hps HPS HP
      go_wp2_with (go_at_call 120; (with_reducible refine D4.out.mono ?_); rintro _ w4 ⟨rfl, rfl⟩)
      refine bodyPost_ret (by simp [results, Tryz.results88, go_sem, c0, c1]; try rfl) rfl ?_
      refine ⟨?_, fun k n r hk => ?_, (HT3.out.setCell (p := ⟨R, 0, none⟩) (.inr HLE.out) _).setCell (p := ⟨R, 1, none⟩) (.inr HLE.out) _⟩
      · show _ = Ending.returned (.tuple #[.agg #[.string ⟨t1.toArray⟩, .string (B.extract f1 (f1 + z1))], .bool true])
        rw [HM.out]
      · cases hk
        exact HR3.out.keep2 HRB.out
    · have hD := HP.out
      rw [if_pos (.inr hf)] at hD
      subst hD
      have dn : ((f1 : Int) != (at_ : Int)) = true := by simp; omega
      clear HPS HP hf
      go_wp2_with (go_at_call 120; (with_reducible refine D4.out.mono ?_); rintro _ w4 ⟨rfl, rfl⟩)
      refine bodyPost_ret (by simp [results, Tryz.results88, go_sem, c0, c1]; try rfl) rfl ?_
      exact ⟨rfl, fun k n r hk => (by cases hk), (HT3.out.setCell (p := ⟨R, 0, none⟩) (.inr HLE.out) _).setCell (p := ⟨R, 1, none⟩) (.inr HLE.out) _⟩
  · have hD := HP.out
    rw [if_pos (.inl hz)] at hD
    subst hD
    have dn : (z3 != 0) = true := by simpa using hz
    clear HPS HP hz
    go_wp2_with (go_at_call 120; (with_reducible refine D4.out.mono ?_); rintro _ w4 ⟨rfl, rfl⟩)
    refine bodyPost_ret (by simp [results, Tryz.results88, go_sem, c0, c1]; try rfl) rfl ?_
    exact ⟨rfl, fun k n r hk => (by cases hk), (HT3.out.setCell (p := ⟨R, 0, none⟩) (.inr HLE.out) _).setCell (p := ⟨R, 1, none⟩) (.inr HLE.out) _⟩
end Go.Proofs.YtmnboiikopkaoaaGreat

namespace Go.Proofs.YtmnboiikopkaoaaGreat
open Go.RowKit

def keyP (ps : List Prt) (i : Nat) : ByteArray := match ps[i]? with
  | some p => p.f
  | none => ⟨#[]⟩
theorem keyP_get {ps : List Prt} {i : Nat} (h : i < ps.length) : keyP ps i = (ps[i]).f := by unfold keyP; rw [List.getElem?_eq_getElem h]
/-- The first keys do not fall. -/
def upP (ps : List Prt) : Bool := (List.range (ps.length - 1)).all fun i => !(lessB (keyP ps (i + 1)) (keyP ps i))
theorem upP_iff (ps : List Prt) : upP ps = true ↔ ∀ i, i + 1 < ps.length → lessB (keyP ps (i + 1)) (keyP ps i) = false := by
  unfold upP
  rw [List.all_eq_true]
  constructor
  · intro h i hi
    have := h i (List.mem_range.2 (by omega))
    simpa using this
  · intro h i hi
    have := h i (by have := List.mem_range.1 hi; omega)
    simp [this]
def wholeB (ps : List Prt) (last : ByteArray) (cnt : Nat) : Bool :=
  !ps.isEmpty && (decide ((cnt + 7) / 8 = ps.length) && (!(lessB last (keyP ps (ps.length - 1))) && (!(decide (cnt % 8 = 1) && !(last.toList == (keyP ps (ps.length - 1)).toList)) && upP ps)))
set_option maxHeartbeats 1000000 in
theorem cmpP_any (k1 b1 k2 b2 : ByteArray) (w : World) :
    Calls Tryz.prog 126 #[.agg #[.string k1, .string b1], .agg #[.string k2, .string b2]] w fun e w' => e = .returned (.int .i64 (Lib.compareBytes k1.data.toList k2.data.toList)) ∧ Below w.heap.size w w' := by
  have C1 := Lib.hid (fun w => Tryz.strings_Compare k1 k2 w)
  generalize Lib.compareBytes k1.data.toList k2.data.toList = X at *
  obtain ⟨W, hW⟩ : ∃ W, ((w.alloc (.cells #[.string k1, .string b1] 76)).alloc (.cells #[.string k2, .string b2] 76)) = W := ⟨_, rfl⟩
  have hB : Below w.heap.size w W := by rw [← hW]; exact ((Below.refl _ _).alloc (Nat.le_refl _) _).alloc (by simp) _
  have c0 : W.cell? ⟨w.heap.size, 0, none⟩ = some (.string k1) := by rw [← hW]; exact oce (by simp) (nce rfl rfl)
  have c1 : W.cell? ⟨w.heap.size + 1, 0, none⟩ = some (.string k2) := by rw [← hW]; exact nce (by simp) rfl
  go_enter Tryz.func126, Tryz.ntmps126
  go_upto_region 1 with fail
  try rw [hW]
  clear hW
  go_wp2_with (go_at_call 74; (with_reducible refine (C1.out _).mono ?_); rintro _ w1 ⟨rfl, rfl⟩)
  go_ret
  exact ⟨rfl, hB⟩
theorem cb_less (a b : ByteArray) : decide (Lib.compareBytes a.data.toList b.data.toList < 0) = lessB a b := by
  unfold lessB
  have h := cb_vals a.data.toList b.data.toList
  by_cases h1 : Lib.compareBytes a.data.toList b.data.toList = -1
  · rw [h1]; rfl
  · rw [decide_eq_false h1, decide_eq_false_iff_not]
    omega
set_option maxHeartbeats 4000000 in
set_option maxRecDepth 100000 in
theorem sortedP_any {w : World} {p : Nat} {F : List Nat} {q : Rdb} (h : RdAt w p F q) (hl : q.ps.length ≤ 1000000) (h0 : q.ps ≠ []) :
    ∃ a cap, w.cell? ⟨p, 0, none⟩ = some (.slice a q.ps.length cap) ∧ Calls Tryz.prog 125 #[.slice a q.ps.length cap, .func (.func 126) #[] #[]] w fun e w' => e = .returned (.bool (upP q.ps)) ∧ Below w.heap.size w w' := by
  obtain ⟨a, cap, c0, hc⟩ := h.parts
  refine ⟨a, cap, c0, ?_⟩
  have hpos : 0 < q.ps.length := List.length_pos_iff.2 h0
  obtain ⟨g, rfl, hg, -, -⟩ := hc 0 hpos
  have HC := Lib.hid (show ∀ W, Below w.heap.size w W → ∀ i, i < q.ps.length → ∃ b, W.cell? ⟨g, i * 2, none⟩ = some (.string (keyP q.ps i)) ∧ W.cell? ⟨g, i * 2 + 1, none⟩ = some (.string b) from fun W hb i hi => by
    obtain ⟨g', e, hg', d0, d1⟩ := hc i hi
    cases e
    rw [keyP_get hi]
    exact ⟨_, (hb.cell (p := ⟨g, i * 2, none⟩) hg).trans d0, (hb.cell (p := ⟨g, i * 2 + 1, none⟩) hg).trans d1⟩)
  have hfn : ∀ (args : Array Value) (w : World), (callFunc 126 args).run Tryz.prog w = .ok (.enter 126 args) w := fun args w => by kernel_rfl
  have HU1 := Lib.hid (upP_iff q.ps).2
  have HU2 := Lib.hid (upP_iff q.ps).1
  clear h c0 hc h0
  generalize upP q.ps = UB at *
  generalize q.ps.length = N at *
  go_enter Tryz.func125, Tryz.ntmps125
  obtain ⟨N1, hN1⟩ : ∃ N1, N = N1 + 1 := ⟨N - 1, by omega⟩
  have hNI : (N : Int) - 1 = (N1 : Int) := by omega
  have hNa : N1 < N := by omega
  have hNb : N ≤ N1 + 1 := by omega
  clear hN1
  go_wp2
  go_loopw [5] (fun iv wr => ∃ i : Nat, iv = .int .i64 (i : Int) ∧ i ≤ N1 ∧ Hid (∀ j, i ≤ j → j + 1 < N → lessB (keyP q.ps (j + 1)) (keyP q.ps j) = false) ∧ Below w.heap.size w wr) (fun iv _ => (intOf iv).toNat)
  case atStart => exact ⟨N1, rfl, Nat.le_refl _, Lib.hid (fun j h1 h2 => by omega), Below.refl _ _⟩
  case round =>
    obtain ⟨i, rfl, hil, HI, hbl⟩ := hrel
    have HBL := Lib.hid hbl
    by_cases hpos' : 0 < i
    · obtain ⟨m, hm⟩ : ∃ m, i = m + 1 := ⟨i - 1, by omega⟩
      have hmI : (i : Int) - 1 = (m : Int) := by omega
      obtain ⟨b1, d0, d1⟩ := HC.out wr hbl i (by omega)
      obtain ⟨b2, e0, e1⟩ := HC.out wr hbl m (by omega)
      have h1 : (i : Int) < (N : Int) := by omega
      have h2 : (m : Int) < (N : Int) := by omega
      have h3 : i < N := by omega
      have hgw : g < wr.heap.size := Nat.lt_of_lt_of_le hg hbl.size
      have h4 : m < N := by omega
      have hwm : IntKind.i64.wrap (m : Int) = (m : Int) := by rw [IntKind.wrap_i64]; omega
      have h5 : (m : Int) ≤ 9223372036854775807 := by omega
      have CC := Lib.hid (fun W => cmpP_any (keyP q.ps i) b1 (keyP q.ps m) b2 W)
      have HL := Lib.hid (cb_less (keyP q.ps i) (keyP q.ps m))
      have HIm := Lib.hid (show i = m + 1 from hm)
      have dp : decide ((0 : Int) < (i : Int)) = true := by simp; omega
      generalize hX : Lib.compareBytes (keyP q.ps i).data.toList (keyP q.ps m).data.toList = X at *
      clear hX hbl hm
      go_upto_region 4 with fail
      go_cut [24] from 13 to 23 (fun v24 wx => v24 = .bool (decide (X < 0)) ∧ Below wr.heap.size wr wx)
      case first =>
        go_region_held3 (fun w' => w'.cell? ⟨g, i * 2, none⟩ = some (.string (keyP q.ps i)) ∧ w'.cell? ⟨g, i * 2 + 1, none⟩ = some (.string b1) ∧ w'.cell? ⟨g, m * 2, none⟩ = some (.string (keyP q.ps m)) ∧ w'.cell? ⟨g, m * 2 + 1, none⟩ = some (.string b2)) (first | go_keep | exact ⟨d0, d1, e0, e1⟩ | exact ⟨(bq.cell (p := ⟨g, i * 2, none⟩) hgw).trans d0, (bq.cell (p := ⟨g, i * 2 + 1, none⟩) hgw).trans d1, (bq.cell (p := ⟨g, m * 2, none⟩) hgw).trans e0, (bq.cell (p := ⟨g, m * 2 + 1, none⟩) hgw).trans e1⟩) (first | (go_at_call 126; (with_reducible refine (CC.out _).mono ?_); rintro _ w2 ⟨rfl, bq⟩) | fail)
        all_goals go_wp2_with fail
        all_goals go_meet
        all_goals exact ⟨rfl, (Below.refl _ _).drew.trans bq⟩
      case rest =>
        obtain ⟨rfl, bq⟩ := hcut
        have HB2 := Lib.hid (HBL.out.trans (bq.mono HBL.out.size))
        clear bq HBL
        rw [HL.out]
        cases hq : lessB (keyP q.ps i) (keyP q.ps m) with
        | true =>
          have HF := Lib.hid (show UB = false by
            cases hU : UB with
            | false => rfl
            | true =>
              have := HU2.out hU m (by omega)
              rw [← HIm.out, hq] at this
              cases this)
          clear hq HU1 HU2 HI
          go_wp2_with fail
          go_ret
          exact ⟨by rw [HF.out]; rfl, HB2.out⟩
        | false =>
          have HI2 := Lib.hid (show ∀ j, m ≤ j → j + 1 < N → lessB (keyP q.ps (j + 1)) (keyP q.ps j) = false from fun j h1 h2 => by
            by_cases e : j = m
            · rw [e, ← HIm.out]; exact hq
            · exact HI.out j (by omega) h2)
          clear hq HI
          go_wp2_with fail
          go_roundw
          case rel => exact ⟨m, by go_num, by omega, HI2, HB2.out⟩
          case measure => simp [intOf]; omega
    · obtain rfl : i = 0 := by omega
      have HU := Lib.hid (HU1.out (fun j hj => HI.out j (Nat.zero_le _) hj))
      clear hbl HI HU1 HU2
      go_wp2
      go_ret
      exact ⟨by rw [HU.out]; rfl, HBL.out⟩
end Go.Proofs.YtmnboiikopkaoaaGreat

namespace Go.Proofs.YtmnboiikopkaoaaGreat
open Go.RowKit

theorem wholeB_eq (ps : List Prt) (last : ByteArray) (cnt : Nat) (h : ps ≠ []) : wholeB ps last cnt = (decide ((cnt + 7) / 8 = ps.length) && (!(lessB last (keyP ps (ps.length - 1)) || (decide (cnt % 8 = 1) && !(last.toList == (keyP ps (ps.length - 1)).toList))) && upP ps)) := by
  unfold wholeB
  cases ps with
  | nil => exact absurd rfl h
  | cons x r =>
    simp only [List.isEmpty_cons, Bool.not_false, Bool.true_and, Bool.not_or, Bool.and_assoc]
theorem drewN_drewN' (w : World) (a b : Nat) : (w.drewN a).drewN b = w.drewN (a + b) := by
  rw [World.drewN_drewN]
section
variable {w : World} {p : Nat} {F : List Nat} {q : Rdb}
theorem RdAt.drewN (h : RdAt w p F q) (n : Nat) : RdAt (w.drewN n) p F q := h.kept fun _ _ => rfl
set_option maxHeartbeats 1000000 in
theorem isWhole_nil (h : RdAt w p F q) (h0 : q.ps = []) : Calls Tryz.prog 91 #[.pointer (some ⟨p, 0, none⟩)] w fun e w' => e = .returned (.bool false) ∧ Below w.heap.size w w' := by
  obtain ⟨a, cap, c0, -⟩ := h.parts
  rw [h0, List.length_nil] at c0
  clear h h0
  go_enter Tryz.func91, Tryz.ntmps91
  go_upto_region 1 with fail
  go_quiet (fail)
  go_wp2
  go_ret
  exact ⟨rfl, belowN (Below.refl _ _) _⟩
set_option maxHeartbeats 4000000 in
set_option maxRecDepth 100000 in
theorem isWhole_some (h : RdAt w p F q) (h0 : q.ps ≠ []) (hl : q.ps.length ≤ 1000000) (hc : q.cnt ≤ 1000000000) : Calls Tryz.prog 91 #[.pointer (some ⟨p, 0, none⟩)] w fun e w' => e = .returned (.bool (wholeB q.ps q.last q.cnt)) ∧ Below w.heap.size w w' := by
  have hpos : 0 < q.ps.length := List.length_pos_iff.2 h0
  obtain ⟨a, cap, c0, hp⟩ := h.parts
  obtain ⟨V, -, c1, c2, -⟩ := h.cells
  obtain ⟨m, hm⟩ : ∃ m, q.ps.length = m + 1 := ⟨q.ps.length - 1, by omega⟩
  obtain ⟨g, rfl, hg, d0, -⟩ := hp m (by omega)
  rw [← keyP_get (show m < q.ps.length by omega)] at d0
  have CB := Lib.hid (fun n => blocksOf_any q.cnt (w.drewN n) hc)
  have CS := Lib.hid (show ∀ n, Calls Tryz.prog 125 #[.slice (some ⟨g, 0, none⟩) q.ps.length cap, .func (.func 126) #[] #[]] (w.drewN n) fun e w' => e = .returned (.bool (upP q.ps)) ∧ Below (w.drewN n).heap.size (w.drewN n) w' from fun n => by
    obtain ⟨a', cap', e, C⟩ := sortedP_any (h.drewN n) (by omega) h0
    have e2 : w.cell? ⟨p, 0, none⟩ = some (.slice a' q.ps.length cap') := e
    rw [c0] at e2
    cases e2
    exact C)
  have HQ := Lib.hid (wholeB_eq q.ps q.last q.cnt h0)
  rw [show q.ps.length - 1 = m by omega] at HQ
  generalize wholeB q.ps q.last q.cnt = WB at *
  have hmI : (q.ps.length : Int) - 1 = (m : Int) := by omega
  have hmL : (m : Int) < (q.ps.length : Int) := by omega
  have hmN : m < q.ps.length := by omega
  have hwm : IntKind.i64.wrap (m : Int) = (m : Int) := by rw [IntKind.wrap_i64]; omega
  obtain ⟨bo, hbo⟩ : ∃ bo, (q.cnt + 7) / 8 = bo := ⟨_, rfl⟩
  rw [hbo] at CB HQ
  obtain ⟨rm, hrm⟩ : ∃ rm, q.cnt % 8 = rm := ⟨_, rfl⟩
  have htm : (q.cnt : Int).tmod 8 = (rm : Int) := by rw [Int.tmod_eq_emod_of_nonneg (by omega)]; omega
  have hem : (q.cnt : Int) % 8 = (rm : Int) := by omega
  rw [hrm] at HQ
  have hne : ((q.ps.length : Int) == 0) = false := by simp; omega
  generalize keyP q.ps m = K at *
  generalize upP q.ps = UP at *
  clear h h0 hp hm hbo hrm hc
  generalize q.ps.length = N at *
  have hle := less_T q.last K
  generalize hLK : lessB q.last K = LK at *
  go_enter Tryz.func91, Tryz.ntmps91
  go_upto_region 1 with fail
  go_cut [22] from 4 to 21 (fun v wx => v = .bool (!(decide (bo = N))) ∧ ∃ n, wx = w.drewN n)
  case first =>
    have hd : ((bo : Int) != (N : Int)) = !(decide (bo = N)) := by
      by_cases e : bo = N
      · subst e; simp
      · rw [decide_eq_false e]; simp; omega
    go_quiet ((go_at_call 39; exact quietH (CB.out _)))
    go_wp2_with fail
    go_meet
    exact ⟨by rw [← hd], _, rfl⟩
  case rest =>
    obtain ⟨rfl, n1, rfl⟩ := hcut
    cases hq : decide (bo = N) with
    | false =>
      have HQ2 := Lib.hid (show WB = false by rw [HQ.out, hq]; rfl)
      clear HQ hq
      go_wp2_with fail
      go_ret
      exact ⟨by rw [HQ2.out]; rfl, belowN (Below.refl _ _) _⟩
    | true =>
      have HQ2 := Lib.hid (show WB = (!(LK || (decide (rm = 1) && !(q.last.toList == K.toList))) && UP) by rw [HQ.out, hq]; rfl)
      clear HQ hq
      have c01 : (w.drewN n1).cell? ⟨p, 0, none⟩ = some (.slice (some ⟨g, 0, none⟩) N cap) := c0
      have d01 : (w.drewN n1).cell? ⟨g, m * 2, none⟩ = some (.string K) := d0
      go_upto_region 3 with fail
      go_cut [3] from 23 to 35 (fun v wx => v = .string K ∧ ∃ n, wx = w.drewN n)
      case first =>
        go_quiet (fail)
        go_wp2_with fail
        go_meet
        exact ⟨rfl, n1 + _, (drewN_drewN' _ _ _)⟩
      case rest =>
        obtain ⟨rfl, n2, rfl⟩ := hcut
        have c11 : (w.drewN n2).cell? ⟨p, 1, none⟩ = some (.string q.last) := c1
        have c21 : (w.drewN n2).cell? ⟨p, 2, none⟩ = some (.int .i64 (q.cnt : Int)) := c2
        have c02 : (w.drewN n2).cell? ⟨p, 0, none⟩ = some (.slice (some ⟨g, 0, none⟩) N cap) := c0
        go_upto_region 4 with fail
        go_cut [57] from 36 to 56 (fun v wx => v = .bool (LK || (decide (rm = 1) && !(q.last.toList == K.toList))) ∧ w.drewN n2 = wx)
        case first =>
          have hd1 : ((rm : Int) == 1) = decide (rm = 1) := by
            by_cases e : rm = 1
            · subst e; simp
            · rw [decide_eq_false e]; simp; omega
          generalize hB1 : decide (rm = 1) = B1 at *
          generalize hB2 : (q.last.toList == K.toList) = B2 at *
          clear hB1
          cases LK <;> cases B1 <;> cases B2
          all_goals go_wp2_with fail
          all_goals go_meet
          all_goals exact ⟨rfl, rfl⟩
        case rest =>
          obtain ⟨rfl, rfl⟩ := hcut
          generalize (LK || (decide (rm = 1) && !(q.last.toList == K.toList))) = T at *
          cases T with
          | true =>
            go_wp2_with fail
            go_ret
            exact ⟨by rw [HQ2.out]; rfl, belowN (Below.refl _ _) _⟩
          | false =>
            go_wp2_with (go_at_call 125; (with_reducible refine (CS.out _).mono ?_); rintro _ w3 ⟨rfl, b3⟩)
            go_ret
            exact ⟨by rw [HQ2.out]; rfl, (belowN (Below.refl w.heap.size w) n2).trans b3⟩
end
end Go.Proofs.YtmnboiikopkaoaaGreat

namespace Go.Proofs.YtmnboiikopkaoaaGreat
open Go.RowKit

/-- One row more of an index is read. -/
def stepI (B : ByteArray) (s : List Prt × Nat × List UInt8) : Option (List Prt × Nat × List UInt8) :=
  match rdPart B.size s.2.1 s.2.2 with
  | none => none
  | some (k, n, r) => some (s.1 ++ [⟨⟨k.toArray⟩, B.extract s.2.1 (s.2.1 + n)⟩], s.2.1 + n, r)
def itI (B : ByteArray) (l : List UInt8) : Nat → Option (List Prt × Nat × List UInt8)
  | 0 => some ([], 0, l)
  | k + 1 => (itI B l k).bind (stepI B)
/-- What stands behind an index's rows. -/
def endI (size : Nat) (e : Int) (s : List Prt × Nat × List UInt8) : Option (List Prt × ByteArray × Nat) :=
  let n := rdC ((s.1.length * 8 : Nat) : Int) s.2.2 e
  let t := rdT 300 n.2.1 n.2.2
  if (t.2.2 = 0 ∧ t.2.1.length = 0) ∧ s.2.1 = size ∧ wholeB s.1 ⟨t.1.toArray⟩ n.1 = true then some (s.1, ⟨t.1.toArray⟩, n.1) else none
/-- What an index says, of blocks of those bytes. -/
def rdIdx (idx B : ByteArray) : Option (List Prt × ByteArray × Nat) := (itI B (rdC (idx.size : Int) idx.data.toList 0).2.1 (rdC (idx.size : Int) idx.data.toList 0).1).bind (endI B.size (rdC (idx.size : Int) idx.data.toList 0).2.2)
theorem stepI_some {B : ByteArray} {s t : List Prt × Nat × List UInt8} (h : stepI B s = some t) (ha : s.2.1 ≤ B.size) : t.2.1 ≤ B.size ∧ t.1.length = s.1.length + 1 ∧ t.2.2.length < s.2.2.length := by
  unfold stepI at h
  split at h
  · cases h
  · rename_i k n r hp
    cases h
    have := rdPart_some hp ha
    refine ⟨this.1, by simp, this.2.1⟩
theorem itI_some {B : ByteArray} {l : List UInt8} : ∀ {k : Nat} {t : List Prt × Nat × List UInt8}, itI B l k = some t → t.2.1 ≤ B.size ∧ t.1.length = k ∧ t.2.2.length + k ≤ l.length
  | 0, t, h => by cases h; exact ⟨Nat.zero_le _, rfl, Nat.le_refl _⟩
  | k + 1, t, h => by
    unfold itI at h
    rw [Option.bind_eq_some_iff] at h
    obtain ⟨s, hs, ht⟩ := h
    have h1 := itI_some hs
    have h2 := stepI_some ht h1.1
    omega
theorem itI_none {B : ByteArray} {l : List UInt8} {k : Nat} (h : itI B l k = none) : ∀ n, k ≤ n → itI B l n = none
  | 0, hn => by rw [show k = 0 by omega] at h; exact h
  | n + 1, hn => by
    by_cases e : k = n + 1
    · rw [← e]; exact h
    · show (itI B l n).bind (stepI B) = none
      rw [itI_none h n (by omega)]
      rfl
/-- The state of readIndex. -/
structure IxS (w : World) (rb p : Nat) (V : Value) (ps : List Prt) (l : List UInt8) (e : Int) (wr : World) : Prop where
  rd : Rdr wr rb l e
  at_ : wr.heap[p]? = some (.cells #[V, .string ⟨#[]⟩, .int .i64 0, .string ⟨#[]⟩, .int .i64 0] 74)
  row : Row wr 76 2 V ps.length (cellsP ps)
  nr : ob V ≠ some rb
  np : ob V ≠ some p
  rp : rb ≠ p
  lr : w.heap.size ≤ rb
  lp : w.heap.size ≤ p
  lv : ∀ k, ob V = some k → w.heap.size ≤ k
  bel : Below w.heap.size w wr
section
variable {w wr wy : World} {rb p : Nat} {V : Value} {ps : List Prt} {l : List UInt8} {e : Int}
theorem IxS.plt (h : IxS w rb p V ps l e wr) : p < wr.heap.size := (Array.getElem?_eq_some_iff.1 h.at_).1
theorem IxS.c (h : IxS w rb p V ps l e wr) : wr.cell? ⟨p, 0, none⟩ = some V := by unfold World.cell?; rw [h.at_]; rfl
theorem IxS.f (h : IxS w rb p V ps l e wr) (j : Nat) : wr.frozen? ⟨p, j, none⟩ = false := by unfold World.frozen?; rw [h.at_]; simp
theorem IxS.below (h : IxS w rb p V ps l e wr) (hb : Below wr.heap.size wr wy) : IxS w rb p V ps l e wy :=
  ⟨h.rd.kept (hb.block rb h.rd.lt), (hb.block p h.plt).trans h.at_, row_below h.row hb, h.nr, h.np, h.rp, h.lr, h.lp, h.lv, h.bel.trans (hb.mono h.bel.size)⟩
/-- The reader of bytes was moved. -/
theorem IxS.read {l' : List UInt8} {e' : Int} (h : IxS w rb p V ps l e wr) (ht : Turn [rb] wr wy) (hr : Rdr wy rb l' e') : IxS w rb p V ps l' e' wy := by
  have hk : ∀ k, k ≠ rb → k < wr.heap.size → wy.heap[k]? = wr.heap[k]? := fun k hk hl => ht.block k hl (by simpa using hk)
  refine ⟨hr, (hk p (fun e => h.rp e.symm) h.plt).trans h.at_, h.row.kept (fun k e => hk k (fun e2 => h.nr (by rw [e, e2])) (h.row.lt k e)), h.nr, h.np, h.rp, h.lr, h.lp, h.lv, h.bel.trans (ht.below h.bel.size (fun x hx => ?_))⟩
  simp at hx
  subst hx
  exact h.lr
/-- One part more. -/
theorem IxS.add {V' : Value} {x : Prt} (h : IxS w rb p V ps l e wr) (hr : Row wy 76 2 V' (ps.length + 1) (cellsP ps ++ [.string x.f, .string x.b])) (hg : wr.grownBy wy (ob V)) (ho : ob V' = ob V ∨ ∃ g, ob V' = some g ∧ wr.heap.size ≤ g) : IxS w rb p V' (ps ++ [x]) l e (wy.setCell ⟨p, 0, none⟩ V') := by
  have hp : wy.heap[p]? = wr.heap[p]? := hg.block p h.plt (fun e => h.np e.symm)
  have hrb : wy.heap[rb]? = wr.heap[rb]? := hg.block rb h.rd.lt (fun e => h.nr e.symm)
  have hnp : ob V' ≠ some p := fun e2 => by
    rcases ho with e | ⟨g, e, hge⟩
    · exact h.np (by rw [← e]; exact e2)
    · rw [e] at e2; cases e2
      have := h.plt
      omega
  refine ⟨(h.rd.kept hrb).kept (heap_setCell_other _ ⟨p, 0, none⟩ rb _ h.rp), ?_, ?_, ?_, hnp, h.rp, h.lr, h.lp, ?_, ?_⟩
  · exact heap_setCell_same wy p 0 _ _ V' (hp.trans h.at_)
  · rw [List.length_append, cellsP_append]
    exact (show Row wy 76 2 V' (ps.length + 1) (cellsP ps ++ [.string x.f, .string x.b]) from hr).kept fun k hk => heap_setCell_other _ ⟨p, 0, none⟩ k _ (fun e => hnp (by rw [hk, e]))
  · intro e2
    rcases ho with e | ⟨g, e, hge⟩
    · exact h.nr (by rw [← e]; exact e2)
    · rw [e] at e2; cases e2
      have := h.rd.lt
      omega
  · intro k hk
    rcases ho with e | ⟨g, e, hge⟩
    · exact h.lv k (by rw [← e]; exact hk)
    · rw [e] at hk; cases hk
      exact Nat.le_trans h.bel.size hge
  · have h1 : Below w.heap.size w wy := below_row h.bel (Nat.le_refl _) hg h.lv
    exact h1.setCell (p := ⟨p, 0, none⟩) h.lp _
end
section
variable {w : World} {p : Nat} {F : List Nat} {q : Rdb}
theorem RdAt.setCnt (h : RdAt w p F q) (c : Nat) : RdAt (w.setCell ⟨p, 2, none⟩ (.int .i64 (c : Int))) p F { q with cnt := c } := by
  obtain ⟨V, h1, h2, rfl, h4⟩ := h.ex
  refine ⟨V, heap_setCell_same w p 2 _ _ _ h1, h2.kept fun k hk => heap_setCell_other w ⟨p, 2, none⟩ k _ (fun e => h4 (by rw [hk, e])), rfl, h4⟩
theorem RdAt.setLast (h : RdAt w p F q) (s : ByteArray) : RdAt (w.setCell ⟨p, 1, none⟩ (.string s)) p F { q with last := s } := by
  obtain ⟨V, h1, h2, rfl, h4⟩ := h.ex
  refine ⟨V, heap_setCell_same w p 1 _ _ _ h1, h2.kept fun k hk => heap_setCell_other w ⟨p, 1, none⟩ k _ (fun e => h4 (by rw [hk, e])), rfl, h4⟩
theorem RdAt.setFil (h : RdAt w p F q) (s : ByteArray) : RdAt (w.setCell ⟨p, 3, none⟩ (.string s)) p F { q with fil := s } := by
  obtain ⟨V, h1, h2, rfl, h4⟩ := h.ex
  refine ⟨V, heap_setCell_same w p 3 _ _ _ h1, h2.kept fun k hk => heap_setCell_other w ⟨p, 3, none⟩ k _ (fun e => h4 (by rw [hk, e])), rfl, h4⟩
end
/-- A reader of bytes beside a table's reader. -/
structure IxR (w : World) (rb p : Nat) (F : List Nat) (q : Rdb) (l : List UInt8) (e : Int) (wr : World) : Prop where
  rd : Rdr wr rb l e
  at_ : RdAt wr p F q
  nf : rb ∉ F
  lr : w.heap.size ≤ rb
  lf : ∀ k ∈ F, w.heap.size ≤ k
  bel : Below w.heap.size w wr
section
variable {w wr wy : World} {rb p : Nat} {F : List Nat} {q : Rdb} {l : List UInt8} {e : Int}
theorem IxS.toR {V : Value} {ps : List Prt} (h : IxS w rb p V ps l e wr) : IxR w rb p (p :: (ob V).toList) ⟨ps, ⟨#[]⟩, 0, ⟨#[]⟩, 0⟩ l e wr := by
  refine ⟨h.rd, ⟨V, h.at_, h.row, rfl, h.np⟩, ?_, h.lr, ?_, h.bel⟩
  · intro hm
    rcases List.mem_cons.1 hm with e | hm
    · exact h.rp e
    · exact h.nr (by simpa using hm)
  · intro k hm
    rcases List.mem_cons.1 hm with rfl | hm
    · exact h.lp
    · exact h.lv k (by simpa using hm)
theorem IxR.below (h : IxR w rb p F q l e wr) (hb : Below wr.heap.size wr wy) : IxR w rb p F q l e wy :=
  ⟨h.rd.kept (hb.block rb h.rd.lt), h.at_.below hb, h.nf, h.lr, h.lf, h.bel.trans (hb.mono h.bel.size)⟩
theorem IxR.read {l' : List UInt8} {e' : Int} (h : IxR w rb p F q l e wr) (ht : Turn [rb] wr wy) (hr : Rdr wy rb l' e') : IxR w rb p F q l' e' wy := by
  refine ⟨hr, h.at_.kept (fun k hk => ht.block k (h.at_.lt k hk) (by simp; exact fun e => h.nf (by rw [← e]; exact hk))), h.nf, h.lr, h.lf, h.bel.trans (ht.below h.bel.size (fun x hx => ?_))⟩
  simp at hx
  subst hx
  exact h.lr
theorem IxR.cnt (h : IxR w rb p F q l e wr) (c : Nat) : IxR w rb p F { q with cnt := c } l e (wr.setCell ⟨p, 2, none⟩ (.int .i64 (c : Int))) :=
  ⟨h.rd.kept (heap_setCell_other _ ⟨p, 2, none⟩ rb _ (fun e => h.nf (by rw [e]; exact h.at_.mem))), h.at_.setCnt c, h.nf, h.lr, h.lf, h.bel.setCell (p := ⟨p, 2, none⟩) (h.lf p h.at_.mem) _⟩
theorem IxR.last (h : IxR w rb p F q l e wr) (s : ByteArray) : IxR w rb p F { q with last := s } l e (wr.setCell ⟨p, 1, none⟩ (.string s)) :=
  ⟨h.rd.kept (heap_setCell_other _ ⟨p, 1, none⟩ rb _ (fun e => h.nf (by rw [e]; exact h.at_.mem))), h.at_.setLast s, h.nf, h.lr, h.lf, h.bel.setCell (p := ⟨p, 1, none⟩) (h.lf p h.at_.mem) _⟩
end
end Go.Proofs.YtmnboiikopkaoaaGreat
