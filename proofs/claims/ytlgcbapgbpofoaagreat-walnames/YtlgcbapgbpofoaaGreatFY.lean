/- How many bytes there are: Used. -/
import Derived.Test.YtlgcbapgbpofoaaGreatFX
namespace Go.Proofs.YtlgcbapgbpofoaaGreat
open Go.RowKit

/-- The bytes of the files that are still to come. -/
def leftSum (files : List Fil) (left : Lit → Bool) (l : Dir) : Nat := ((l.filter fun p => left (.string p.1)).map fun p => (files.getD p.2 default).b.length).sum
theorem leftSum_all (files : List Fil) (left : Lit → Bool) (l : Dir) (h : ∀ p ∈ l, left (.string p.1) = true) : leftSum files left l = used files l := by
  unfold leftSum used
  rw [List.filter_eq_self.2 (by simpa using h)]
theorem leftSum_none (files : List Fil) (left : Lit → Bool) (l : Dir) (h : ∀ kl, left kl = false) : leftSum files left l = 0 := by
  unfold leftSum
  rw [List.filter_eq_nil_iff.2 (by simp [h])]
  rfl
theorem rise_ne {l : Dir} (h : Rise l) : l.Pairwise fun p q => p.1 ≠ q.1 :=
  h.imp fun {p q} hb e => by rw [e, WideAt.bytes_irrefl] at hb; cases hb
theorem leftSum_step (files : List Fil) (left : Lit → Bool) {n : Nm} {i : Nat} (hl : left (.string n) = true) : ∀ {l : Dir}, l.Pairwise (fun p q => p.1 ≠ q.1) → (n, i) ∈ l →
    leftSum files left l = (files.getD i default).b.length + leftSum files (fun z => left z && !z.sameKey (.string n)) l
  | [], _, h => by cases h
  | p :: l, hp, h => by
    have h2 := List.pairwise_cons.1 hp
    have hst : ∀ q : Nm × Nat, (fun z : Lit => left z && !z.sameKey (.string n)) (.string q.1) = (left (.string q.1) && !(q.1 == n)) := fun q => rfl
    by_cases he : p.1 = n
    · have hpi : p = (n, i) := by
        rcases List.mem_cons.1 h with h' | h'
        · exact h'.symm
        · exact absurd he (h2.1 _ h')
      subst hpi
      have hrest : leftSum files (fun z => left z && !z.sameKey (.string n)) l = leftSum files left l := by
        unfold leftSum
        congr 2
        refine List.filter_congr fun q hq => ?_
        rw [hst]
        have : (q.1 == n) = false := by simpa using fun e => h2.1 q hq e.symm
        rw [this]
        simp
      unfold leftSum at hrest ⊢
      rw [List.filter_cons_of_pos (by simpa using hl), List.filter_cons_of_neg (by simp [Lit.sameKey]), hrest]
      simp
    · have h' : (n, i) ∈ l := by
        rcases List.mem_cons.1 h with h' | h'
        · exact absurd (by rw [← h']) he
        · exact h'
      have ih := leftSum_step files left hl h2.2 h'
      have hb : (p.1 == n) = false := by simpa using he
      unfold leftSum at ih ⊢
      by_cases hlp : left (.string p.1) = true
      · rw [List.filter_cons_of_pos (by simpa using hlp), List.filter_cons_of_pos (by rw [hst, hlp, hb]; rfl)]
        simp only [List.map_cons, List.sum_cons]
        rw [ih, Nat.add_left_comm]
      · rw [List.filter_cons_of_neg (by simpa using hlp), List.filter_cons_of_neg (by rw [hst]; simp [hlp])]
        exact ih
theorem used_le {files : List Fil} {m : Nat} (h : ∀ f ∈ files, f.b.length ≤ m) : ∀ (l : Dir), used files l ≤ l.length * m
  | [] => by simp [used]
  | p :: l => by
    have ih := used_le h l
    have hp : (files.getD p.2 default).b.length ≤ m := by
      rw [List.getD_eq_getElem?_getD]
      cases hg : files[p.2]? with
      | none => exact Nat.zero_le _
      | some f => exact h f (List.mem_of_getElem? hg)
    unfold used at ih ⊢
    simp only [List.map_cons, List.sum_cons, List.length_cons]
    rw [Nat.succ_mul]
    omega
theorem used_nil (w : World) : Calls Tryz.prog 162 #[.pointer none] w fun e w' => e = .returned (.int .i64 0) ∧ w = w' := by
  go_enter Tryz.func162, Tryz.ntmps162
  go_wp2
  go_ret
  exact ⟨rfl, rfl⟩
theorem pinv {v : Value} {y : DataW Unit × List MemPlace} (h : pElem v = some y) : ∃ c : Option Nat, v = pAt c := by
  rcases pElem_inv h with ⟨rfl, -⟩ | ⟨b, rfl, -⟩
  · exact ⟨none, rfl⟩
  · exact ⟨some b, rfl⟩
set_option maxHeartbeats 2000000 in
set_option maxRecDepth 100000 in
theorem used_any {w : World} {r : Rep} {s : St} {n m : Nat} (h : Sys w r s) (hL : Lim n m s) (hN : n ≤ 1000000) (hM : m ≤ 1000000000) :
    Calls Tryz.prog 162 #[.pointer (some ⟨r.p, 0, none⟩)] w fun e w' => e = .returned (.int .i64 (used s.files s.now : Nat)) ∧ Below w.heap.size w w' := by
  have c6 := h.c6
  have hnow := hL.now h.wf
  have hu := used_le hL.bytes s.now
  have hu2 : used s.files s.now ≤ 1000000000000000 := by
    have : s.now.length * m ≤ 1000000 * 1000000000 := Nat.mul_le_mul (by omega) hM
    omega
  have hris : Rise s.now := by
    have := h.now.rise keyS
    unfold Rise mapD at this
    rw [List.pairwise_map] at this
    exact this
  have hown := Lib.hid h.now
  go_enter Tryz.func162, Tryz.ntmps162
  go_wp2_with (first
    | (at_range; refine wpList_range_own _ rfl _ 164 rfl 9 198 keyS dirT _ r.mn _ _ rfl hown.out ?_; intro w0 hrg0 hg0 hs0)
    | go_in)
  go_frame
  go_loopw [3, 5] (fun nv _ wr => ∃ (left : Lit → Bool) (cnt : Nat), wr.ranges Tryz.prog 9 pElem r.mn w.heap.size (mapD r.at s.now).length (.map (encD (mapD r.at s.now))) left cnt ∧ Below w.heap.size w wr ∧ ∃ g : Nat, nv = .int .i64 (g : Int) ∧ g + leftSum s.files left s.now = used s.files s.now)
    (fun _ _ wr => wr.rangeLeft r.mn w.heap.size)
  case atStart =>
    refine ⟨_, _, hrg0, ⟨hg0.os, hg0.tape, hg0.output, hg0.size, fun k hk => hg0.block k hk (by simp)⟩, 0, rfl, ?_⟩
    rw [leftSum_all]
    · omega
    · intro p hp
      rw [encD_has, mapD_get]
      have : (dget s.now p.1).isSome = true := by
        unfold dget
        rw [Option.isSome_map, List.isSome_find?]
        exact List.any_eq_true.2 ⟨p, hp, by simp⟩
      simpa using this
  case round =>
    obtain ⟨left, cnt, hrg, hbel, g, rfl, hsum⟩ := hrel
    go_wp2_with (first
      | (at_next; refine wpList_next_ranges _ rfl _ rfl 9 keyS pElem encStr pAt (fun key kl hk => by obtain ⟨x, hx, -⟩ := Maps.keyOf_str Tryz.underlying9 hk; exact ⟨x, hx⟩) (fun v y hv => pinv hv) r.mn w.heap.size _ _ _ _ rfl hrg ?_ ?_)
      | go_in)
    · intro _ hl0
      rw [leftSum_none _ _ _ hl0] at hsum
      go_wp2
      go_ret
      exact ⟨by rw [← hsum]; rfl, hbel⟩
    · intro y c kl yd yp w2 cnt2 hkey hlk hv hat hrg2 hlt hg2 hs2 hen
      obtain ⟨y', ey, rfl, -⟩ := Maps.keyOf_str Tryz.underlying9 hkey
      obtain rfl : y = y' := encStr_inj ey
      obtain ⟨i, hgi, hc⟩ : ∃ i, dget s.now y = some i ∧ c = some (r.at i) := by
        have e1 := hat .nil
        have e2 := hat (.lit (.bool true))
        rw [encD_at, mapD_get] at e1 e2
        cases hgi : dget s.now y with
        | none =>
          rw [hgi] at e1 e2
          simp at e1 e2
          rw [← e1] at e2
          cases e2
        | some i =>
          rw [hgi] at e1
          simp at e1
          subst e1
          refine ⟨i, rfl, ?_⟩
          cases c with
          | none => simp [pAt, pElem] at hv
          | some b =>
            simp only [pAt, pElem_some, Option.some.injEq, Prod.mk.injEq, DataW.lit.injEq, Lit.int.injEq, true_and] at hv
            have := hv.1
            congr 1
            omega
      subst hc
      obtain ⟨x, f, hx, hfi, hok, hxat, hgd⟩ := h.here hgi
      have hstep := leftSum_step s.files left hlk (rise_ne hris) (mem_of_dget hgi)
      rw [hgd] at hstep
      have hbel2 : Below w.heap.size w w2 := hbel.trans ⟨hg2.os, hg2.tape, hg2.output, hg2.size, fun k hk => hg2.block k (by have := hbel.size; omega) (by simp; omega)⟩
      obtain ⟨a0, cap0, hsl, -, -⟩ := hok.slice
      have hxl : x.1 < w.heap.size := h.lt _ (h.fs_foot hx _ (by simp [fFoot]))
      have k0 : w2.cell? ⟨x.1, 0, none⟩ = some (.slice a0 f.b.length cap0) := by
        rw [hbel2.cell (p := ⟨x.1, 0, none⟩) hxl, hok.c0, hsl]
      have hp : pAt (some (r.at i)) = .pointer (some ⟨x.1, 0, none⟩) := by rw [hxat]; rfl
      rw [hp] at hen ⊢
      have hen' := hen
      clear hs2 hp hat hv hgi hgd hkey ey
      go_wp2
      go_roundw
      case rel =>
        refine ⟨_, cnt2, hrg2, hbel2, g + f.b.length, ?_, ?_⟩
        · go_num
        · omega
      case measure =>
        rw [hrg2.left_eq, hrg.left_eq]
        exact hlt
end Go.Proofs.YtlgcbapgbpofoaaGreat
