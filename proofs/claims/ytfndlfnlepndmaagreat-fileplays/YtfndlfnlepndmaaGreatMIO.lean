/- LentInts and StaysInts over rows (over the O-parts). -/
import Derived.Test.YtfndlfnlepndmaaGreatMS
import Derived.Test.YtfndlfnlepndmaaGreatOkInts
namespace Go.Proofs.YtfndlfnlepndmaaGreat
open Go.RowKit

theorem row_new {w : World} {e : TypeId} {size : Nat} {v : Value} {n : Nat} {xs : List Value} (h : Row w e size v n xs) (o : Obj) : Row (w.alloc o) e size v n xs :=
  h.kept fun k hk => Below.heap_alloc w o k (h.lt k hk)
/-- Where a row made by append out of nothing lies. -/
theorem ob_newM {w w1 : World} {v1 : Value} (h : ob v1 = ob (.slice none 0 0) ∨ (ob v1 = some w.heap.size ∧ w.grownBy w1 none)) : ∀ k, ob v1 = some k → w.heap.size ≤ k := by
  intro k hk
  rcases h with e | ⟨e, -⟩
  · rw [e] at hk
    simp [ob] at hk
  · rw [e] at hk
    cases hk
    exact Nat.le_refl _
theorem lent_form {w w1 w2 : World} {e : TypeId} {size n : Nat} {v1 v2 : Value} {xs : List Value} {o : Obj} (h : Row w2 e size v2 (n + 1) xs) (hob : ob v2 = ob v1 ∨ (ob v2 = some (w1.heap.size + 1) ∧ (w1.alloc o).grownBy w2 none)) (h1 : ∀ k, ob v1 = some k → w.heap.size ≤ k) (hs : w.heap.size ≤ w1.heap.size) : ∃ g c, v2 = .slice (some ⟨g, 0, none⟩) (n + 1) (c + 1) ∧ w.heap.size ≤ g := by
  rcases h.2 with ⟨h0, -⟩ | ⟨g, cap, cur, rfl, -⟩
  · cases h0
  · refine ⟨g, cap, rfl, ?_⟩
    rcases hob with e | ⟨e, -⟩
    · exact h1 g (by rw [← e]; rfl)
    · have : g = w1.heap.size + 1 := Option.some.inj e
      omega
theorem lent_below {w w1 w2 : World} {v1 : Value} {o : Obj} (hb : Below w.heap.size w w1) (hg : (w1.alloc o).grownBy w2 (ob v1)) (h1 : ∀ k, ob v1 = some k → w.heap.size ≤ k) : Below w.heap.size w w2 :=
  (hb.alloc hb.size o).trans ((turn_of_grown (F := (ob v1).toList) hg (fun k hk => .inl (by simp [hk]))).below (by have := hb.size; simp; omega) (fun k hk => h1 k (by simpa using hk)))
theorem lent_cap {w : World} {e : TypeId} {size n g c : Nat} {xs : List Value} (h : Row w e size (.slice (some ⟨g, 0, none⟩) n c) n xs) : n ≤ c := by
  obtain ⟨a, cap, e, h1, -⟩ := h.le
  cases e
  exact h1
set_option maxHeartbeats 2000000 in
set_option maxRecDepth 100000 in
theorem lentI8_src (a : Option Addr) (cap : Nat) (ks : List Int) (w : World) (hs : Src Tryz.prog 1 46 (.slice a ks.length cap) ks.length (cellsI ks) w) (hl : ks.length ≤ 1000000) :
    Calls Tryz.prog 48 #[.slice a ks.length cap] w fun e w' => ∃ g c, e = .returned (.slice (some ⟨g, 0, none⟩) ks.length (c + 1)) ∧ Row w' 3 1 (.slice (some ⟨g, 0, none⟩) (ks.length + 1) (c + 1)) (ks.length + 1) (cellsI ks ++ [.int .i64 (-77)]) ∧ w.heap.size ≤ g ∧ Below w.heap.size w w' := by
  obtain ⟨i0, hi, hz0, hzs, hzb⟩ := info_parts infoI8
  have HS := Lib.hid hs
  have HB1 := Lib.hid (show 0 + ks.length ≤ maxLen by unfold maxLen; omega)
  have HB2 := Lib.hid (show (0 + ks.length) * 8 ≤ 140737488355328 by omega)
  have HB3 := Lib.hid (show ks.length + 1 ≤ maxLen by unfold maxLen; omega)
  have HB4 := Lib.hid (show (ks.length + 1) * 8 ≤ 140737488355328 by omega)
  clear hs
  go_enter Tryz.func48, Tryz.ntmps48
  have HM := Lib.hid (show ∀ w1 : World, Src Tryz.prog 1 46 (.slice (some ⟨w1.heap.size, 0, none⟩) 1 1) 1 [.int .i64 (-77)] (w1.alloc (.cells #[.int .i64 (-77)] 3)) from fun w1 => Src.ofSlice (P := Tryz.prog) _ (size := 1) Tryz.underlying46 ⟨w1.heap.size, 0, none⟩ 1 1 _ rfl (fun j u hu => by
    match j, hu with
    | 0, hu => simpa [Addr.add] using hu) (by simp [Value.oneCell']))
  go_wp2_with (at_builtin; refine wpList_append_row _ rfl _ _ 46 46 rfl 3 i0 _ 1 8 Tryz.underlying46 hi hz0 hzs hzb rfl (.slice none 0 0) 0 [] rfl (row_nil _ _ _) _ rfl ks.length _ HS.out HB1.out HB2.out ?_)
  intro v1 w1 hrow1 hgrow1 hob1
  have hb1 : Below w.heap.size w w1 := (turn_of_grown (F := []) hgrow1 (fun k hk => by simp [ob] at hk)).below (Nat.le_refl _) (by simp)
  try simp only [Nat.zero_add, List.nil_append] at hrow1
  have HR1 := Lib.hid hrow1
  have HO1 := Lib.hid hob1
  have HBW := Lib.hid hb1
  clear hrow1 hgrow1 hob1 hb1
  go_wp2_with (at_builtin; refine wpList_append_row _ rfl _ _ 46 46 rfl 3 i0 _ 1 8 Tryz.underlying46 hi hz0 hzs hzb rfl v1 _ _ rfl (row_new HR1.out _) _ rfl 1 _ (HM.out _) HB3.out HB4.out ?_)
  intro v2 w2 hrow2 hgrow2 hob2
  obtain ⟨g, c, rfl, hgb⟩ := lent_form (w := w) hrow2 hob2 (ob_newM HO1.out) HBW.out.size
  have hb2 := lent_below HBW.out hgrow2 (ob_newM HO1.out)
  have HR2 := Lib.hid hrow2
  have hcap : ks.length + 1 ≤ c + 1 := lent_cap hrow2
  have HB := Lib.hid hb2
  clear hrow2 hgrow2 hob2 hb2
  go_wp2
  go_ret
  exact ⟨g, c, rfl, HR2.out, hgb, HB.out⟩
theorem lentI8_any (a : Option Addr) (len cap : Nat) (ks : List Int) (w : World) (h : IntsV w (.slice a len cap) ks) (hl : ks.length ≤ 1000000) :
    Calls Tryz.prog 48 #[.slice a len cap] w fun e w' => ∃ g c, e = .returned (.slice (some ⟨g, 0, none⟩) ks.length (c + 1)) ∧ Row w' 3 1 (.slice (some ⟨g, 0, none⟩) (ks.length + 1) (c + 1)) (ks.length + 1) (cellsI ks ++ [.int .i64 (-77)]) ∧ w.heap.size ≤ g ∧ Below w.heap.size w w' := by
  rcases h with ⟨e, rfl⟩ | ⟨y, cap', e, hc⟩
  · cases e
    exact lentI8_src none 0 [] w (Src.ofNil (P := Tryz.prog) (w := w) Tryz.underlying46 0) (by simp)
  · cases e
    exact lentI8_src (some y) cap ks w (Src.ofSlice (P := Tryz.prog) _ (size := 1) Tryz.underlying46 y ks.length cap (cellsI ks) (by rw [cellsI_length, Nat.mul_one]) hc (cellsI_one ks)) hl
set_option maxHeartbeats 1000000 in
theorem staysI8_any (g c : Nat) (a : Option Addr) (len cap : Nat) (ks : List Int) (w : World) (h : Row w 3 1 (.slice (some ⟨g, 0, none⟩) (ks.length + 1) (c + 1)) (ks.length + 1) (cellsI ks ++ [.int .i64 (-77)])) (hv : IntsV w (.slice a len cap) ks) (hl : ks.length ≤ 1000000) :
    Calls Tryz.prog 50 #[.slice (some ⟨g, 0, none⟩) ks.length (c + 1), .slice a len cap] w fun e w' => e = .returned (.bool true) ∧ Below w.heap.size w w' := by
  have hcell : ∀ i (hi : i < ks.length), w.cell? ⟨g, i, none⟩ = some (.int .i64 ks[i]) := fun i hi => by
    have := h.cell g 0 (c + 1) rfl i (.int .i64 ks[i]) (by rw [List.getElem?_append_left (by rw [cellsI_length]; exact hi)]; simp [cellsI, hi])
    rw [Nat.zero_add] at this
    exact this
  have hmark : w.cell? ⟨g, ks.length, none⟩ = some (.int .i64 (-77)) := by
    have := h.cell g 0 (c + 1) rfl ks.length (.int .i64 (-77)) (by rw [List.getElem?_append_right (by rw [cellsI_length]; exact Nat.le_refl _), cellsI_length, Nat.sub_self]; rfl)
    rw [Nat.zero_add] at this
    exact this
  have hcap := lent_cap h
  have HC : Hid (Calls Tryz.prog 130 #[.slice (some ⟨g, 0, none⟩) ks.length (c + 1), .slice a len cap] w fun e w' => e = .returned (.bool true) ∧ ∃ n, w' = w.drewN n) := by
    rcases hv with ⟨e, rfl⟩ | ⟨y, cap', e, hc⟩
    · cases e
      exact Lib.hid (sameInts_none _ _ _ _ _)
    · cases e
      by_cases h0 : ks = []
      · subst h0
        exact Lib.hid (sameInts_none _ _ _ _ _)
      · have hpos : 0 < ks.length := List.length_pos_iff.2 h0
        have hc0 := hc 0 _ (show (cellsI ks)[0]? = some (.int .i64 ks[0]) by simp [cellsI, hpos])
        obtain ⟨b, off, spot⟩ := y
        have hs : spot = none := by simpa [Addr.add] using World.cell?_spot hc0
        subst hs
        refine Lib.hid (sameInts_some g 0 (c + 1) b off cap ks w hl (fun i hi => by rw [Nat.zero_add]; exact hcell i hi) (fun i hi => ?_))
        have := hc i (.int .i64 ks[i]) (by simp [cellsI, hi])
        rw [addr_at] at this
        exact this
  clear h hv hcell
  go_enter Tryz.func50, Tryz.ntmps50
  go_wp2_with (go_at_call 130; refine HC.out.mono ?_; rintro e w' ⟨rfl, n, rfl⟩)
  go_ret
  exact ⟨rfl, ⟨rfl, rfl, rfl, Nat.le_refl _, fun _ _ => rfl⟩⟩
end Go.Proofs.YtfndlfnlepndmaaGreat
