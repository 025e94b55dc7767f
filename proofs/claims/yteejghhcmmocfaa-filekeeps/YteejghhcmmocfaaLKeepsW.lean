/- The walk of FileKeeps: what was synced under a name that was made for good is there behind a failure, with some first bytes of what was added since. -/
import Derived.Test.YteejghhcmmocfaaFHR
namespace Go.Proofs.Yteejghhcmmocfaa
open Go.RowKit

def K2 (a : List UInt8) : St := ⟨true, true, 0, 2, -1, -1, [([97], 0)], [], [⟨[], [97], some 0⟩], [⟨a, 0⟩]⟩
def K3 (a : List UInt8) : St := ⟨true, true, 0, 3, -1, -1, [([97], 0)], [], [⟨[], [97], some 0⟩], [⟨a, a.length⟩]⟩
def K4 (a : List UInt8) : St := ⟨true, true, 0, 4, -1, -1, [([97], 0)], [([97], 0)], [], [⟨a, a.length⟩]⟩
def K5 (a b : List UInt8) : St := ⟨true, true, 0, 5, -1, -1, [([97], 0)], [([97], 0)], [], [⟨a ++ b, a.length⟩]⟩
def K6 (a b : List UInt8) : St := ⟨true, true, 0, 6, -1, -1, [([97], 0), ([98], 1)], [([97], 0)], [⟨[], [98], some 1⟩], [⟨a ++ b, a.length⟩, ⟨[], 0⟩]⟩
def K7 (t : List UInt8) (d : Dir) : St := ⟨true, false, 0, 6, -1, -1, d, d, [], [⟨t, t.length⟩, ⟨[], 0⟩]⟩
def K8 (t : List UInt8) (d : Dir) : St := ⟨true, true, 0, 6, -1, -1, d, d, [], [⟨t, t.length⟩, ⟨[], 0⟩]⟩
theorem k2 (a : List UInt8) : A1.append [97] a = (K2 a, 0) := rfl
theorem k3 (a : List UInt8) : (K2 a).sync [97] = (K3 a, 0) := rfl
theorem k4 (a : List UInt8) : (K3 a).syncDir = (K4 a, 0) := rfl
theorem k5 (a b : List UInt8) : (K4 a).append [97] b = (K5 a b, 0) := rfl
theorem k6 (a b : List UInt8) : (K5 a b).create [98] = (K6 a b, 0) := rfl
theorem k7 (t : List UInt8) (d : Dir) : (K7 t d).append [97] [120] = (K7 t d, 14) := rfl
theorem k8 (t : List UInt8) (d : Dir) : (K7 t d).restore = K8 t d := rfl
theorem k8n (t : List UInt8) (d : Dir) : (K8 t d).names = d.map (·.1) := rfl
theorem cut_none : (Fil.mk ([] : List UInt8) 0).cut 0 = ⟨[], 0⟩ := by decide
/-- What is left of the file. -/
def left1 (a b : List UInt8) (keep : Int) : List UInt8 := (a ++ b).take (a.length + modn keep (b.length + 1))
theorem left_len (a b : List UInt8) (keep : Int) : (left1 a b keep).length = a.length + modn keep (b.length + 1) := by
  have := modn_lt keep (b.length + 1) (by omega)
  unfold left1
  rw [List.length_take, List.length_append]
  omega
theorem cut_left (a b : List UInt8) (keep : Int) : (Fil.mk (a ++ b) a.length).cut keep = ⟨left1 a b keep, (left1 a b keep).length⟩ := by
  rw [left_len]
  unfold Fil.cut left1
  simp only [List.length_append]
  rw [show a.length + b.length - a.length + 1 = b.length + 1 by omega]
theorem kc0 (a b : List UInt8) (dir keep : Int) (h : modn dir 2 = 0) : (K6 a b).crash dir [keep] = K7 (left1 a b keep) [([97], 0)] := by
  have hk : modn dir ((K6 a b).pend.length + 1) = 0 := h
  unfold St.crash
  rw [hk]
  show (⟨true, false, 0, 6, -1, -1, [([97], 0)], [([97], 0)], [], [(Fil.mk (a ++ b) a.length).cut keep, ⟨[], 0⟩]⟩ : St) = _
  rw [cut_left]
  rfl
theorem kc1 (a b : List UInt8) (dir keep : Int) (h : modn dir 2 = 1) : (K6 a b).crash dir [keep] = K7 (left1 a b keep) [([97], 0), ([98], 1)] := by
  have hk : modn dir ((K6 a b).pend.length + 1) = 1 := h
  unfold St.crash
  rw [hk]
  show (⟨true, false, 0, 6, -1, -1, [([97], 0), ([98], 1)], [([97], 0), ([98], 1)], [], [(Fil.mk (a ++ b) a.length).cut keep, (Fil.mk [] 0).cut 0]⟩ : St) = _
  rw [cut_left, cut_none]
  rfl
theorem kd0 (t : List UInt8) : (K8 t [([97], 0)]).crash 0 [0] = K7 t [([97], 0)] := by
  show (⟨true, false, 0, 6, -1, -1, [([97], 0)], [([97], 0)], [], [(Fil.mk t t.length).cut 0, ⟨[], 0⟩]⟩ : St) = _
  rw [cut_whole]
  rfl
theorem kd1 (t : List UInt8) : (K8 t [([97], 0), ([98], 1)]).crash 0 [0] = K7 t [([97], 0), ([98], 1)] := by
  show (⟨true, false, 0, 6, -1, -1, [([97], 0), ([98], 1)], [([97], 0), ([98], 1)], [], [(Fil.mk t t.length).cut 0, (Fil.mk [] 0).cut 0]⟩ : St) = _
  rw [cut_whole, cut_none]
  rfl
set_option maxHeartbeats 16000000 in
set_option maxRecDepth 100000 in
theorem keeps_hard (safe more T : ByteArray) (dir keep : Int) (d : Dir) (w : World) (hs : safe.size ≤ 3000) (hm : more.size ≤ 3000) (hcr : (K6 safe.data.toList more.data.toList).crash dir [keep] = K7 T.data.toList d) (hrd : (K8 T.data.toList d).read [97] = (T.data.toList, 0)) (hcr2 : (K8 T.data.toList d).crash 0 [0] = K7 T.data.toList d)
    (hdl : (d.map (·.1)).length ≤ 1000000) (ht1 : safe.size ≤ T.size) (ht2 : T.size ≤ safe.size + more.size) (hte : (safe ++ more).extract 0 T.size = T) :
    Calls Try.prog 5 #[.string safe, .string more, .int .i64 dir, .int .i64 keep] w fun e w' => e = .returned (.bool true) ∧ Below w.heap.size w w' := by
  have C0 := Lib.hid (has_new 0 (by omega) w)
  have h120 : (⟨#[120]⟩ : ByteArray).size = 1 := rfl
  have C1 := Lib.hid (fun p w1 (h : Has w.heap.size p (0) (0) (St.new 0) w1) => by
    have := has_create h (by omega) ⟨#[97]⟩ (by unfold maxLen; decide)
    rw [show (St.new 0).create (⟨#[97]⟩ : ByteArray).data.toList = (A1, 0) from a1] at this
    exact this)
  have C2 := Lib.hid (fun p w1 (h : Has w.heap.size p (0 + 2) (0) (A1) w1) => by
    have := has_append h (by omega) ⟨#[97]⟩ (by unfold maxLen; decide) safe (by omega) (by omega)
    rw [show (A1).append (⟨#[97]⟩ : ByteArray).data.toList safe.data.toList = (K2 safe.data.toList, 0) from k2 _] at this
    exact this)
  have C3 := Lib.hid (fun p w1 (h : Has w.heap.size p (0 + 2 + 1) (0 + safe.size) (K2 safe.data.toList) w1) => by
    have := has_sync h (by omega) ⟨#[97]⟩ (by unfold maxLen; decide)
    rw [show (K2 safe.data.toList).sync (⟨#[97]⟩ : ByteArray).data.toList = (K3 safe.data.toList, 0) from k3 _] at this
    exact this)
  have C4 := Lib.hid (fun p w1 (h : Has w.heap.size p (0 + 2 + 1 + 1) (0 + safe.size) (K3 safe.data.toList) w1) => by
    have := has_syncDir h (by omega)
    rw [show (K3 safe.data.toList).syncDir  = (K4 safe.data.toList, 0) from k4 _] at this
    exact this)
  have C5 := Lib.hid (fun p w1 (h : Has w.heap.size p (0 + 2 + 1 + 1 + 1) (0 + safe.size) (K4 safe.data.toList) w1) => by
    have := has_append h (by omega) ⟨#[97]⟩ (by unfold maxLen; decide) more (by omega) (by omega)
    rw [show (K4 safe.data.toList).append (⟨#[97]⟩ : ByteArray).data.toList more.data.toList = (K5 safe.data.toList more.data.toList, 0) from k5 _ _] at this
    exact this)
  have C6 := Lib.hid (fun p w1 (h : Has w.heap.size p (0 + 2 + 1 + 1 + 1 + 1) (0 + safe.size + more.size) (K5 safe.data.toList more.data.toList) w1) => by
    have := has_create h (by omega) ⟨#[98]⟩ (by unfold maxLen; decide)
    rw [show (K5 safe.data.toList more.data.toList).create (⟨#[98]⟩ : ByteArray).data.toList = (K6 safe.data.toList more.data.toList, 0) from k6 _ _] at this
    exact this)
  have C7 := Lib.hid (fun p w1 (h : Has w.heap.size p (0 + 2 + 1 + 1 + 1 + 1 + 2) (0 + safe.size + more.size) (K6 safe.data.toList more.data.toList) w1) => by
    have := has_crash1 h (by omega) (by omega) (dir) (keep)
    rw [show (K6 safe.data.toList more.data.toList).crash (dir) [keep] = K7 T.data.toList d from hcr] at this
    exact this)
  have C8 := Lib.hid (fun p w1 (h : Has w.heap.size p (0 + 2 + 1 + 1 + 1 + 1 + 2) (0 + safe.size + more.size) (K7 T.data.toList d) w1) => by
    have := has_append h (by omega) ⟨#[97]⟩ (by unfold maxLen; decide) ⟨#[120]⟩ (by omega) (by decide)
    rw [show (K7 T.data.toList d).append (⟨#[97]⟩ : ByteArray).data.toList (⟨#[120]⟩ : ByteArray).data.toList = (K7 T.data.toList d, 14) from k7 _ _] at this
    exact this)
  have C9 := Lib.hid (fun p w1 (h : Has w.heap.size p (0 + 2 + 1 + 1 + 1 + 1 + 2 + 1) (0 + safe.size + more.size + (⟨#[120]⟩ : ByteArray).size) (K7 T.data.toList d) w1) => by
    have := has_restore h
    rw [show (K7 T.data.toList d).restore = K8 T.data.toList d from k8 _ _] at this
    exact this)
  have C10 := Lib.hid (fun p w1 (h : Has w.heap.size p (0 + 2 + 1 + 1 + 1 + 1 + 2 + 1) (0 + safe.size + more.size + (⟨#[120]⟩ : ByteArray).size) (K8 T.data.toList d) w1) => by
    have := has_read h ⟨#[97]⟩ (by unfold maxLen; decide)
    rw [show (K8 T.data.toList d).read (⟨#[97]⟩ : ByteArray).data.toList = (T.data.toList, 0) from hrd, readV_str] at this
    exact this)
  have C11 := Lib.hid (fun p w1 (h : Has w.heap.size p (0 + 2 + 1 + 1 + 1 + 1 + 2 + 1) (0 + safe.size + more.size + (⟨#[120]⟩ : ByteArray).size) (K8 T.data.toList d) w1) => by
    have := hasR_names h (by omega)
    rw [k8n] at this
    exact this)
  have C12 := Lib.hid (fun v p w1 (h : HasR w.heap.size p (0 + 2 + 1 + 1 + 1 + 1 + 2 + 1) (0 + safe.size + more.size + (⟨#[120]⟩ : ByteArray).size) (K8 T.data.toList d) v (d.map (·.1)) w1) => by
    have := hasR_crash1 h (by omega) (by omega) 0 0
    rw [hcr2] at this
    exact this)
  have C13 := Lib.hid (fun v p w1 (h : HasR w.heap.size p (0 + 2 + 1 + 1 + 1 + 1 + 2 + 1) (0 + safe.size + more.size + (⟨#[120]⟩ : ByteArray).size) (K7 T.data.toList d) v (d.map (·.1)) w1) => by
    have := hasR_restore h
    rw [k8] at this
    exact this)
  have C14 := Lib.hid (fun v p w1 (h : HasR w.heap.size p (0 + 2 + 1 + 1 + 1 + 1 + 2 + 1) (0 + safe.size + more.size + (⟨#[120]⟩ : ByteArray).size) (K8 T.data.toList d) v (d.map (·.1)) w1) => by
    have := has_read h.has ⟨#[97]⟩ (by unfold maxLen; decide)
    rw [show (K8 T.data.toList d).read (⟨#[97]⟩ : ByteArray).data.toList = (T.data.toList, 0) from hrd, readV_str] at this
    exact this)
  have C15 := Lib.hid (fun v p w1 (h : HasR w.heap.size p (0 + 2 + 1 + 1 + 1 + 1 + 2 + 1) (0 + safe.size + more.size + (⟨#[120]⟩ : ByteArray).size) (K8 T.data.toList d) v (d.map (·.1)) w1) => by
    have := hasR_names2 h (by omega)
    rw [k8n] at this
    exact this)
  have hd1 : decide (3000 < (safe.size : Int)) = false := by simp; omega
  have hd2 : decide (3000 < (more.size : Int)) = false := by simp; omega
  have hd3 : decide ((T.size : Int) < (safe.size : Int)) = false := by simp; omega
  have hd4 : decide ((safe.size : Int) + (more.size : Int) < (T.size : Int)) = false := by simp; omega
  have hsd : safe.data.size ≤ 3000 := hs
  have hmd : more.data.size ≤ 3000 := hm
  have i1 : (0 : Int) ≤ (T.size : Int) := by omega
  have i2 : (T.size : Int) ≤ ((safe ++ more).size : Int) := by rw [ByteArray.size_append]; omega
  have i3 : T.size ≤ (safe ++ more).size := by omega
  clear hcr hrd hcr2 h120
  go_enter Try.func5, Try.ntmps5
  go_wp2_with (first | (go_at_call 28; refine C0.out.mono ?_; rintro e W0 ⟨p, rfl, h0, b0⟩) | (go_at_call 17; (with_reducible refine (C1.out _ _ h0).mono ?_); rintro e W1 ⟨rfl, h1, bC1⟩) | (go_at_call 18; (with_reducible refine (C2.out _ _ h1).mono ?_); rintro e W2 ⟨rfl, h2, bC2⟩) | (go_at_call 19; (with_reducible refine (C3.out _ _ h2).mono ?_); rintro e W3 ⟨rfl, h3, bC3⟩) | (go_at_call 20; (with_reducible refine (C4.out _ _ h3).mono ?_); rintro e W4 ⟨rfl, h4, bC4⟩) | (go_at_call 18; (with_reducible refine (C5.out _ _ h4).mono ?_); rintro e W5 ⟨rfl, h5, bC5⟩) | (go_at_call 17; (with_reducible refine (C6.out _ _ h5).mono ?_); rintro e W6 ⟨rfl, h6, bC6⟩) | (go_at_call 14; (with_reducible refine (C7.out _ _ h6).mono ?_); rintro e W7 ⟨rfl, h7, bC7⟩) | (go_at_call 18; (with_reducible refine (C8.out _ _ h7).mono ?_); rintro e W8 ⟨rfl, h8, bC8⟩) | (go_at_call 12; (with_reducible refine (C9.out _ _ h8).mono ?_); rintro e W9 ⟨rfl, h9, bC9⟩) | (go_at_call 13; (with_reducible refine (C10.out _ _ h9).mono ?_); rintro e W10 ⟨rfl, rfl⟩) | (go_at_call 23; first | ((with_reducible refine (C11.out _ _ h9).mono ?_); rintro e W11 ⟨v11, rfl, h11, b11⟩) | ((with_reducible refine (C15.out _ _ _ h16).mono ?_); rintro e W15 ⟨v15, rfl, r15, h15, b15⟩)) | (go_at_call 14; (with_reducible refine (C12.out _ _ _ h11).mono ?_); rintro e W12 ⟨rfl, h12, b12⟩) | (go_at_call 12; (with_reducible refine (C13.out _ _ _ h12).mono ?_); rintro e W13 ⟨rfl, h13, b13⟩) | (go_at_call 13; (with_reducible refine (C14.out _ _ _ h13).mono ?_); rintro e W14 ⟨rfl, rfl⟩) | (go_at_call 11; refine (alive4_any _).mono ?_; rintro e WA ⟨rfl, bA⟩; have h16 := h13.below bA) | (go_at_call 29; refine (sameT_any _ _ _ _ h15.row r15 hdl).mono ?_; rintro e WS ⟨rfl, bS⟩))
  go_ret
  refine ⟨rfl, ?_⟩
  have kb : Below w.heap.size w W9 := ((((((((b0.trans bC1).trans bC2).trans bC3).trans bC4).trans bC5).trans bC6).trans bC7).trans bC8).trans bC9
  have k11 := kb.trans (b11.mono h9.size)
  have k13 := (k11.trans b12).trans b13
  have kA := k13.trans (bA.mono h13.has.size)
  have k15 := kA.trans (b15.mono h16.has.size)
  exact k15.trans (bS.mono h15.has.size)
theorem left_text (safe more : ByteArray) (keep : Int) : ∃ T : ByteArray, T.data.toList = left1 safe.data.toList more.data.toList keep ∧ safe.size ≤ T.size ∧ T.size ≤ safe.size + more.size ∧ (safe ++ more).extract 0 T.size = T := by
  have hl := left_len safe.data.toList more.data.toList keep
  have hk := modn_lt keep (more.data.toList.length + 1) (by omega)
  have e1 : safe.data.toList.length = safe.size := rfl
  have e2 : more.data.toList.length = more.size := rfl
  have hT : (⟨(left1 safe.data.toList more.data.toList keep).toArray⟩ : ByteArray).size = (left1 safe.data.toList more.data.toList keep).length := by simp [ByteArray.size]
  refine ⟨⟨(left1 safe.data.toList more.data.toList keep).toArray⟩, rfl, by rw [hT]; omega, by rw [hT]; omega, ?_⟩
  rw [hT, hl]
  apply ByteArray.ext
  apply Array.ext'
  rw [ByteArray.data_extract, Array.toList_extract]
  simp [left1, List.extract, ByteArray.data_append]
theorem fileKeeps_walk (safe : ByteArray) (_ : safe.size ≤ maxLen) (more : ByteArray) (_ : more.size ≤ maxLen) (dir : Int) (_ : -9223372036854775808 ≤ dir) (_ : dir ≤ 9223372036854775807) (keep : Int) (_ : -9223372036854775808 ≤ keep) (_ : keep ≤ 9223372036854775807) (w : World) :
    Calls Try.prog 5 #[.string safe, .string more, .int .i64 dir, .int .i64 keep] w fun e w' => e = .returned (.bool true) ∧ Below w.heap.size w w' := by
  by_cases h1 : 3000 < safe.size
  · have hd1 : decide (3000 < (safe.size : Int)) = true := by simp; omega
    go_enter Try.func5, Try.ntmps5
    go_wp2_with (go_at_call 11; refine (alive4_any _).mono ?_; rintro e w1 ⟨rfl, hb1⟩)
    go_ret
    exact ⟨rfl, hb1⟩
  · have hd1 : decide (3000 < (safe.size : Int)) = false := by simp; omega
    by_cases h2 : 3000 < more.size
    · have hd2 : decide (3000 < (more.size : Int)) = true := by simp; omega
      go_enter Try.func5, Try.ntmps5
      go_wp2_with (go_at_call 11; refine (alive4_any _).mono ?_; rintro e w1 ⟨rfl, hb1⟩)
      go_ret
      exact ⟨rfl, hb1⟩
    · obtain ⟨T, hT, ht1, ht2, hte⟩ := left_text safe more keep
      have hm := modn_lt dir 2 (by omega)
      by_cases hk : modn dir 2 = 0
      · exact keeps_hard safe more T dir keep [([97], 0)] w (by omega) (by omega) (by rw [hT]; exact kc0 _ _ _ _ hk) rfl (kd0 _) (by simp) ht1 ht2 hte
      · exact keeps_hard safe more T dir keep [([97], 0), ([98], 1)] w (by omega) (by omega) (by rw [hT]; exact kc1 _ _ _ _ (by omega)) rfl (kd1 _) (by simp) ht1 ht2 hte
end Go.Proofs.Yteejghhcmmocfaa
