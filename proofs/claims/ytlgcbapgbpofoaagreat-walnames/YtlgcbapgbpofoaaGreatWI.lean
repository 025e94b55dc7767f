/- wal's Log: refuses, Num, Size, Create. -/
import Derived.Test.YtlgcbapgbpofoaaGreatWH
import Derived.Test.YtlgcbapgbpofoaaGreatWD
namespace Go.Proofs.YtlgcbapgbpofoaaGreat
open Go.RowKit

/-- A log at L. -/
def LogAt (w : World) (L p : Nat) (num size : Int) (brk : Bool) : Prop := w.heap[L]? = some (.cells #[.pointer (some ⟨p, 0, none⟩), .int .i64 num, .int .i64 size, .bool brk] 97)
section
variable {w w' : World} {L p : Nat} {num size : Int} {brk : Bool}
theorem LogAt.lt (h : LogAt w L p num size brk) : L < w.heap.size := (Array.getElem?_eq_some_iff.1 h).1
theorem LogAt.kept (h : LogAt w L p num size brk) (hk : w'.heap[L]? = w.heap[L]?) : LogAt w' L p num size brk := hk.trans h
theorem LogAt.c0 (h : LogAt w L p num size brk) : w.cell? ⟨L, 0, none⟩ = some (.pointer (some ⟨p, 0, none⟩)) := by unfold World.cell?; rw [show w.heap[L]? = _ from h]; rfl
theorem LogAt.c1 (h : LogAt w L p num size brk) : w.cell? ⟨L, 1, none⟩ = some (.int .i64 num) := by unfold World.cell?; rw [show w.heap[L]? = _ from h]; rfl
theorem LogAt.c2 (h : LogAt w L p num size brk) : w.cell? ⟨L, 2, none⟩ = some (.int .i64 size) := by unfold World.cell?; rw [show w.heap[L]? = _ from h]; rfl
theorem LogAt.c3 (h : LogAt w L p num size brk) : w.cell? ⟨L, 3, none⟩ = some (.bool brk) := by unfold World.cell?; rw [show w.heap[L]? = _ from h]; rfl
theorem LogAt.warm (h : LogAt w L p num size brk) (j : Nat) : w.frozen? ⟨L, j, none⟩ = false := by unfold World.frozen?; rw [show w.heap[L]? = _ from h]; simp
theorem LogAt.set2 (h : LogAt w L p num size brk) (z : Int) : LogAt (w.setCell ⟨L, 2, none⟩ (.int .i64 z)) L p num z brk := heap_setCell_same w L 2 #[.pointer (some ⟨p, 0, none⟩), .int .i64 num, .int .i64 size, .bool brk] 97 _ h
theorem LogAt.set3 (h : LogAt w L p num size brk) (z : Bool) : LogAt (w.setCell ⟨L, 3, none⟩ (.bool z)) L p num size z := heap_setCell_same w L 3 #[.pointer (some ⟨p, 0, none⟩), .int .i64 num, .int .i64 size, .bool brk] 97 _ h
end
set_option maxHeartbeats 1000000 in
theorem refuses_any (L p : Nat) (num size : Int) (brk : Bool) (w : World) (h : LogAt w L p num size brk) :
    Calls Tryz.prog 135 #[.pointer (some ⟨L, 0, none⟩)] w fun e w' => e = .returned (.int .i64 (if brk then 17 else 0)) ∧ w = w' := by
  have c0 := h.c0
  have c3 := h.c3
  cases brk with
  | false =>
    go_enter Tryz.func135, Tryz.ntmps135
    go_wp2
    go_ret
    exact ⟨rfl, rfl⟩
  | true =>
    go_enter Tryz.func135, Tryz.ntmps135
    go_wp2
    go_ret
    exact ⟨rfl, rfl⟩
set_option maxHeartbeats 1000000 in
theorem logNum_any (L p : Nat) (num size : Int) (brk : Bool) (w : World) (h : LogAt w L p num size brk) :
    Calls Tryz.prog 34 #[.pointer (some ⟨L, 0, none⟩)] w fun e w' => e = .returned (.int .i64 num) ∧ w = w' := by
  have c1 := h.c1
  go_enter Tryz.func34, Tryz.ntmps34
  go_wp2
  go_ret
  exact ⟨rfl, rfl⟩
set_option maxHeartbeats 1000000 in
theorem logSize_any (L p : Nat) (num size : Int) (brk : Bool) (w : World) (h : LogAt w L p num size brk) :
    Calls Tryz.prog 39 #[.pointer (some ⟨L, 0, none⟩)] w fun e w' => e = .returned (.int .i64 size) ∧ w = w' := by
  have c2 := h.c2
  go_enter Tryz.func39, Tryz.ntmps39
  go_wp2
  go_ret
  exact ⟨rfl, rfl⟩
/-- What Create of a segment does to the files. -/
def mkLog (s : St) (num : Nat) : St × Int := if (s.create (nameB num)).2 = 0 then (s.create (nameB num)).1.syncDir else s.create (nameB num)
theorem mkLog_no {s : St} {num : Nat} (h : (s.create (nameB num)).2 ≠ 0) : mkLog s num = s.create (nameB num) := if_neg h
theorem mkLog_yes {s : St} {num : Nat} (h : (s.create (nameB num)).2 = 0) : mkLog s num = (s.create (nameB num)).1.syncDir := if_pos h
/-- What it answers. -/
def LogTold (F : Nat → Prop) (B p n m : Nat) (s' : St) (err : Int) (num : Nat) (w : World) (pv : Value) (w' : World) : Prop :=
  Below B w w' ∧ Kp F w w' ∧ ((err ≠ 0 ∧ pv = .pointer none ∧ Hs F B p n m s' w') ∨ (err = 0 ∧ ∃ L, pv = .pointer (some ⟨L, 0, none⟩) ∧ w.heap.size ≤ L ∧ LogAt w' L p (num : Int) 0 false ∧ Hs (fun k => F k ∨ k = L) B p n m s' w'))
theorem name_size (m : Nat) : (⟨(nameB m).toArray⟩ : ByteArray).size ≤ maxLen := by
  rw [show (⟨(nameB m).toArray⟩ : ByteArray).size = 9 from rfl]
  unfold maxLen
  omega
section
variable {F : Nat → Prop} {B p n m : Nat} {s : St} {w : World}
set_option maxHeartbeats 4000000 in
set_option maxRecDepth 100000 in
theorem logCreate_any (h : Hs F B p n m s w) (hN : n ≤ 90000) (num : Nat) (hn : num < 100000000) :
    Calls Tryz.prog 31 #[.pointer (some ⟨p, 0, none⟩), .int .i64 (num : Int)] w fun e w' => ∃ pv, e = .returned (.tuple #[pv, .int .i64 (mkLog s num).2]) ∧ LogTold F B p (n + 3) m (mkLog s num).1 (mkLog s num).2 num w pv w' := by
  have hmod : (num : Int) % 100000000 = (num : Int) := by omega
  have CM := Lib.hid (modulo_walk (num : Int) w (by omega) (by omega))
  have CNM := Lib.hid (name_any (num : Int) w (by omega) (by omega))
  rw [hmod] at CM
  rw [hmod, Int.toNat_natCast] at CNM
  obtain ⟨NM, hNM⟩ : ∃ NM : ByteArray, (⟨(nameB num).toArray⟩ : ByteArray) = NM := ⟨_, rfl⟩
  have hNs : NM.size ≤ maxLen := by rw [← hNM]; exact name_size num
  have hNl : NM.data.toList = nameB num := by rw [← hNM]
  rw [hNM] at CNM
  have hB := h.size
  have HH := Lib.hid h
  have CC := Lib.hid (fun W (h : Hs F B p n m s W) => hs_create h (by omega) NM hNs)
  rw [hNl] at CC
  have HNO := Lib.hid (@mkLog_no s num)
  have HYS := Lib.hid (@mkLog_yes s num)
  clear h hmod hNM hNl
  go_enter Tryz.func31, Tryz.ntmps31
  go_wp2_with (fail)
  go_at_call 76
  refine CM.out.mono ?_
  rintro _ _ ⟨rfl, rfl⟩
  go_wp2_with (fail)
  go_at_call 19
  refine CNM.out.mono ?_
  rintro _ w1 ⟨rfl, b1⟩
  have hs1 := HH.out.same b1
  go_wp2_with (fail)
  go_at_call 49
  refine (CC.out _ hs1).mono ?_
  rintro _ w2 ⟨rfl, hs2, b2, k2⟩
  have bl2 : Below B w w2 := (b1.mono hB).trans b2
  have kp2 : Kp F w w2 := fun k hk => (k2 k hk).trans (b1.block k (HH.out.lt k hk))
  generalize hcr : s.create (nameB num) = sc at *
  obtain ⟨s2, e2⟩ := sc
  simp only at hs2 HNO HYS
  clear hs1 CC CNM CM
  by_cases he : e2 = 0
  · subst he
    have HY := HYS.out
    have hml := HY rfl
    have CD := Lib.hid (hs_syncDir hs2 (by omega))
    have HML := Lib.hid hml
    clear hml HY HNO HYS hcr
    go_wp2_with (fail)
    go_at_call 142
    refine CD.out.mono ?_
    rintro _ w3 ⟨rfl, hs3, b3, k3⟩
    have bl3 := bl2.trans b3
    have kp3 := kp2.trans k3
    have hs3' := hs3.up (show n + 2 + 1 ≤ n + 3 by omega) (Nat.le_refl _)
    have hw3 : w.heap.size ≤ w3.heap.size := by have := b1.size; have := b2.size; have := b3.size; omega
    rw [← HML.out] at hs3'
    have e3 : (s2.syncDir).2 = (mkLog s num).2 := by rw [HML.out]
    rw [e3]
    clear CD hs3 e3
    generalize hER : (mkLog s num).2 = er at *
    generalize hSR : (mkLog s num).1 = sr at *
    have HER := Lib.hid (And.intro hER hSR)
    clear hER hSR
    by_cases hz : er = 0
    · subst hz
      go_wp2
      refine bodyPost_ret (results_tmp2 rfl _ _ _) rfl ?_
      rw [HER.out.1, HER.out.2]
      have ba : Below w3.heap.size w3 (w3.alloc (.cells #[.pointer (some ⟨p, 0, none⟩), .int .i64 (num : Int), .int .i64 0, .bool false] 97)) := (Below.refl _ _).alloc (Nat.le_refl _) _
      refine ⟨_, rfl, bl3.trans (ba.mono hs3'.size), fun k hk => (ba.block k (hs3'.lt k hk)).trans (kp3 k hk), .inr ⟨rfl, w3.heap.size, rfl, hw3, heap_alloc_new w3 _, hs3'.below ba fun k hk => ?_⟩⟩
      rcases hk with hk | rfl
      · exact .inl hk
      · exact .inr ⟨Nat.le_refl _, by simp⟩
    · have hzb : (er != 0) = true := by simpa using hz
      go_wp2
      refine bodyPost_ret (results_tmp2 rfl _ _ _) rfl ?_
      rw [HER.out.1, HER.out.2]
      exact ⟨_, rfl, bl3, kp3, .inl ⟨hz, rfl, hs3'⟩⟩
  · have HN := HNO.out
    have hml := HN he
    have heb : (e2 != 0) = true := by simpa using he
    have HML := Lib.hid hml
    clear hml HN HNO HYS hcr
    go_wp2
    refine bodyPost_ret (results_tmp2 rfl _ _ _) rfl ?_
    rw [HML.out]
    exact ⟨_, rfl, bl2, kp2, .inl ⟨he, rfl, hs2.up (by omega) (Nat.le_refl _)⟩⟩
end
end Go.Proofs.YtlgcbapgbpofoaaGreat
