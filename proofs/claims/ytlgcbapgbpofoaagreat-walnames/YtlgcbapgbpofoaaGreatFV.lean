/- Contracts: Rename, Remove. -/
import Derived.Test.YtlgcbapgbpofoaaGreatFU
namespace Go.Proofs.YtlgcbapgbpofoaaGreat
open Go.RowKit

theorem WF.now_nms {s : St} (h : WF s) : ∀ p ∈ s.now, isNm p.1 = true := h.nnms
theorem nm_size {s : ByteArray} (h : isNm s.data.toList = true) : s.size ≤ 20 := by
  have hl : s.data.toList.length = s.size := rfl
  simp [isNm, hl] at h
  exact h.2
theorem nm_ne {n : Nm} (h : isNm n = true) : n ≠ [] := by
  rintro rfl
  simp [isNm] at h
set_option maxHeartbeats 1000000 in
set_option maxRecDepth 100000 in
theorem remove1_any {w : World} {r : Rep} {s : St} {n m : Nat} (h : Sys w r s) (hL : Lim n m s) (hN : n ≤ 1000000) (name : ByteArray) (hn : name.size ≤ maxLen) (bf bn : Nat) (kf : w.cell? ⟨bf, 0, none⟩ = some (.pointer (some ⟨r.p, 0, none⟩))) (kn : w.cell? ⟨bn, 0, none⟩ = some (.string name)) :
    Calls Tryz.prog 222 #[.pointer (some ⟨bf, 0, none⟩), .pointer (some ⟨bn, 0, none⟩)] w fun e w' => e = .returned (.int .i64 (actRemove name.data.toList s).2) ∧ Next w r (actRemove name.data.toList s).1 w' := by
  have c6 := h.c6
  have hlook := dirLook (h.now.kept (w' := w.drew) rfl) name hn
  rw [mapD_get] at hlook
  cases hg : dget s.now name.data.toList with
  | none =>
    have hfin := Lib.hid (show actRemove name.data.toList s = (s, 7) by unfold actRemove; rw [hg]; rfl)
    rw [hg, pAt_none] at hlook
    clear hg
    go_enter Tryz.func222, Tryz.ntmps222
    go_wp2
    go_region_held3 (fun w' => w'.cell? ⟨bn, 0, none⟩ = some (.string name) ∧ w'.cell? ⟨bf, 0, none⟩ = some (.pointer (some ⟨r.p, 0, none⟩)) ∧ w'.cell? ⟨r.p, 6, none⟩ = some (.map (some r.mn)) ∧ (Instr.lookup 164 (.map (some r.mn)) (.string name) false).run Tryz.prog w' = .ok (.pointer none) w') (go_keep) (fail)
    go_wp2
    go_ret
    rw [hfin.out]
    exact ⟨rfl, h.drew.next.drew0⟩
  | some i =>
    have hfin := Lib.hid (show actRemove name.data.toList s = (s.doing ⟨name.data.toList, [], none⟩, 0) by unfold actRemove; rw [hg]; rfl)
    rw [hg, pAt_map] at hlook
    have hnm := h.wf.now_nms _ (mem_of_dget hg)
    have hsz := nm_size hnm
    have hnow := hL.now h.wf
    have hpend := hL.dirs
    have hfit : (Chg.mk name.data.toList ([] : Nm) none).fits s := ⟨.inl rfl, fun i hi => by simp at hi, .inr hnm, .inl rfl⟩
    have hdo := do_any h.drew name ⟨#[]⟩ none hfit (by omega) (by simp [ByteArray.size]) (by omega) (by omega)
    rw [pAt_none] at hdo
    have Hdo := Lib.hid hdo
    clear hdo hfit hnm hg hnow hpend
    go_enter Tryz.func222, Tryz.ntmps222
    go_wp2
    go_region_held3 (fun w' => w'.cell? ⟨bn, 0, none⟩ = some (.string name) ∧ w'.cell? ⟨bf, 0, none⟩ = some (.pointer (some ⟨r.p, 0, none⟩)) ∧ w'.cell? ⟨r.p, 6, none⟩ = some (.map (some r.mn)) ∧ (Instr.lookup 164 (.map (some r.mn)) (.string name) false).run Tryz.prog w' = .ok (.pointer (some ⟨r.at i, 0, none⟩)) w') (go_keep) (fail)
    go_wp2_with (go_at_call 175; refine Hdo.out.mono ?_; rintro e w2 ⟨rfl, hn2⟩)
    go_ret
    rw [hfin.out]
    exact ⟨rfl, hn2.drew0⟩
set_option maxHeartbeats 1000000 in
set_option maxRecDepth 100000 in
theorem rename1_any {w : World} {r : Rep} {s : St} {n m : Nat} (h : Sys w r s) (hL : Lim n m s) (hN : n ≤ 1000000) (a : ByteArray) (ha : a.size ≤ maxLen) (b : ByteArray) (hb : b.size ≤ maxLen) (bf ba bb : Nat) (kf : w.cell? ⟨bf, 0, none⟩ = some (.pointer (some ⟨r.p, 0, none⟩))) (ka : w.cell? ⟨ba, 0, none⟩ = some (.string a)) (kb : w.cell? ⟨bb, 0, none⟩ = some (.string b)) :
    Calls Tryz.prog 221 #[.pointer (some ⟨bf, 0, none⟩), .pointer (some ⟨ba, 0, none⟩), .pointer (some ⟨bb, 0, none⟩)] w fun e w' => e = .returned (.int .i64 (actRename a.data.toList b.data.toList s).2) ∧ Next w r (actRename a.data.toList b.data.toList s).1 w' := by
  have c6 := h.c6
  have hI := Lib.hid (fun w' : World => isName_any b w' hb)
  have hlook := dirLook (h.now.kept (w' := w.drew) rfl) a ha
  rw [mapD_get] at hlook
  cases hg : dget s.now a.data.toList with
  | none =>
    have hfin := Lib.hid (show actRename a.data.toList b.data.toList s = (s, 7) by unfold actRename; rw [hg]; rfl)
    rw [hg, pAt_none] at hlook
    clear hg
    go_enter Tryz.func221, Tryz.ntmps221
    go_wp2
    go_region_held3 (fun w' => w'.cell? ⟨ba, 0, none⟩ = some (.string a) ∧ w'.cell? ⟨bf, 0, none⟩ = some (.pointer (some ⟨r.p, 0, none⟩)) ∧ w'.cell? ⟨r.p, 6, none⟩ = some (.map (some r.mn)) ∧ (Instr.lookup 164 (.map (some r.mn)) (.string a) false).run Tryz.prog w' = .ok (.pointer none) w') (go_keep) (fail)
    go_wp2
    go_ret
    rw [hfin.out]
    exact ⟨rfl, h.drew.next.drew0⟩
  | some i =>
    rw [hg, pAt_map] at hlook
    cases hnb : isNm b.data.toList
    · have hfin := Lib.hid (show actRename a.data.toList b.data.toList s = (s, 1) by unfold actRename; rw [hg, hnb]; rfl)
      rw [hnb] at hI
      clear hg hnb
      go_enter Tryz.func221, Tryz.ntmps221
      go_wp2
      go_region_held3 (fun w' => w'.cell? ⟨ba, 0, none⟩ = some (.string a) ∧ w'.cell? ⟨bf, 0, none⟩ = some (.pointer (some ⟨r.p, 0, none⟩)) ∧ w'.cell? ⟨r.p, 6, none⟩ = some (.map (some r.mn)) ∧ (Instr.lookup 164 (.map (some r.mn)) (.string a) false).run Tryz.prog w' = .ok (.pointer (some ⟨r.at i, 0, none⟩)) w') (go_keep) (fail)
      go_wp2_with (go_at_call 174; refine (hI.out _).mono ?_; rintro e w1 ⟨rfl, rfl⟩)
      go_ret
      rw [hfin.out]
      exact ⟨rfl, h.drew.next.drew0⟩
    · rw [hnb] at hI
      by_cases hab : a.data.toList = b.data.toList
      · have hfin := Lib.hid (show actRename a.data.toList b.data.toList s = (s, 0) by unfold actRename; rw [hg, hnb, if_pos hab]; rfl)
        have he : (a.toList == b.toList) = true := by rw [toList_data, toList_data, hab]; simp
        clear hg hnb hab
        go_enter Tryz.func221, Tryz.ntmps221
        go_wp2
        go_region_held3 (fun w' => w'.cell? ⟨ba, 0, none⟩ = some (.string a) ∧ w'.cell? ⟨bf, 0, none⟩ = some (.pointer (some ⟨r.p, 0, none⟩)) ∧ w'.cell? ⟨r.p, 6, none⟩ = some (.map (some r.mn)) ∧ (Instr.lookup 164 (.map (some r.mn)) (.string a) false).run Tryz.prog w' = .ok (.pointer (some ⟨r.at i, 0, none⟩)) w') (go_keep) (fail)
        go_wp2_with (go_at_call 174; refine (hI.out _).mono ?_; rintro e w1 ⟨rfl, rfl⟩)
        go_ret
        rw [hfin.out]
        exact ⟨rfl, h.drew.next.drew0⟩
      · have hfin := Lib.hid (show actRename a.data.toList b.data.toList s = (s.doing ⟨a.data.toList, b.data.toList, none⟩, 0) by unfold actRename; rw [hg, hnb, if_neg hab]; rfl)
        have he : (a.toList == b.toList) = false := by rw [toList_data, toList_data]; simpa using hab
        have hna := h.wf.now_nms _ (mem_of_dget hg)
        have hsa := nm_size hna
        have hsb := nm_size hnb
        have hnow := hL.now h.wf
        have hpend := hL.dirs
        have hfit : (Chg.mk a.data.toList b.data.toList none).fits s := ⟨.inr (by simp [Chg.file, nm_ne hna, hg]), fun i hi => by simp at hi, .inr hna, .inr hnb⟩
        have hdo := do_any h.drew a b none hfit (by omega) (by omega) (by omega) (by omega)
        rw [pAt_none] at hdo
        have Hdo := Lib.hid hdo
        clear hdo hfit hna hg hnow hpend hnb hab
        go_enter Tryz.func221, Tryz.ntmps221
        go_wp2
        go_region_held3 (fun w' => w'.cell? ⟨ba, 0, none⟩ = some (.string a) ∧ w'.cell? ⟨bf, 0, none⟩ = some (.pointer (some ⟨r.p, 0, none⟩)) ∧ w'.cell? ⟨r.p, 6, none⟩ = some (.map (some r.mn)) ∧ (Instr.lookup 164 (.map (some r.mn)) (.string a) false).run Tryz.prog w' = .ok (.pointer (some ⟨r.at i, 0, none⟩)) w') (go_keep) (fail)
        go_wp2_with (first | (go_at_call 174; refine (hI.out _).mono ?_; rintro e w1 ⟨rfl, rfl⟩) | (go_at_call 175; refine Hdo.out.mono ?_; rintro e w2 ⟨rfl, hn2⟩))
        go_ret
        rw [hfin.out]
        exact ⟨rfl, hn2.drew0⟩
theorem act_on_remove (n : Nm) (s : St) : (actRemove n s).1.on = s.on := by
  unfold actRemove
  split <;> rfl
theorem act_on_rename (a b : Nm) (s : St) : (actRename a b s).1.on = s.on := by
  unfold actRename
  split
  · split
    · split <;> rfl
    · rfl
  · rfl
set_option maxHeartbeats 1000000 in
set_option maxRecDepth 100000 in
theorem remove_any {w : World} {r : Rep} {s : St} {n m : Nat} (h : Sys w r s) (hL : Lim n m s) (hN : n ≤ 100000) (name : ByteArray) (h_name : name.size ≤ maxLen) :
    Calls Tryz.prog 145 #[.pointer (some ⟨r.p, 0, none⟩), .string name] w fun e w' => e = .returned (.int .i64 (s.remove name.data.toList).2) ∧ Next w r (s.remove name.data.toList).1 w' := by
  have h1 := hL.s1
  have hB : ∀ k ∈ r.foot, k < w.heap.size := h.lt
  obtain ⟨W, hW⟩ : ∃ W, W = (w.alloc (.cells #[.pointer (some ⟨r.p, 0, none⟩)] 63)).alloc (.cells #[.string name] 9) := ⟨_, rfl⟩
  have hbW : Below w.heap.size w W := by rw [hW]; exact ((Below.refl _ _).alloc (Nat.le_refl _) _).alloc (by first | (simp; done) | (simp; omega)) _
  have hsW : Sys W r s := h.below hbW
  have hwz : W.heap.size = w.heap.size + 2 := by rw [hW]; simp
  have hk0 : W.cell? ⟨w.heap.size, 0, none⟩ = some (.pointer (some ⟨r.p, 0, none⟩)) := by rw [hW]; exact ocell (by first | (simp; done) | (simp; omega)) (ncell (by first | (simp; done) | (simp; omega)) rfl)
  have hk1 : W.cell? ⟨w.heap.size + 1, 0, none⟩ = some (.string name) := by rw [hW]; exact ncell (by first | (simp; done) | (simp; omega)) rfl
  have hcall : Calls Tryz.prog 172 #[.pointer (some ⟨r.p, 0, none⟩), .func (.func 222) #[] #[.pointer (some ⟨w.heap.size, 0, none⟩), .pointer (some ⟨w.heap.size + 1, 0, none⟩)]] W fun e w' => e = .returned (.int .i64 (s.remove name.data.toList).2) ∧ Next W r (s.remove name.data.toList).1 w' := by
    cases hon : s.on
    · have hc : s.remove name.data.toList = (s, 14) := by unfold St.remove wr; rw [hon]; rfl
      rw [hc]
      refine (write_off _ _ r.p W (by rw [← hon]; exact hsW.c1)).mono ?_
      rintro e w' ⟨he, rfl⟩
      exact ⟨he, hsW.next⟩
    · refine write_on _ _ (fun _ => by kernel_rfl) (actRemove name.data.toList) hsW hon hL.s0 (by omega) hL.fuse (fun w1 hs1 ht1 hz1 => ?_) (act_on_remove _ _)
      have hne : ∀ k, w.heap.size ≤ k → k ∉ [r.p] := by
        intro k hk
        have := hB r.p (by simp [Rep.foot])
        simp
        omega
      exact remove1_any hs1 hL.begun (by omega) name h_name _ _ ((ht1.cell (by omega) (hne _ (by omega))).trans hk0) ((ht1.cell (by omega) (hne _ (by omega))).trans hk1)
  have Hc := Lib.hid hcall
  have HB := Lib.hid hbW
  clear hcall hk0 hk1 hsW hwz hbW
  rw [hW] at Hc HB
  clear hW
  go_enter Tryz.func145, Tryz.ntmps145
  go_wp2_with (go_at_call 172; refine Hc.out.mono ?_; rintro e w' ⟨rfl, hn'⟩)
  go_ret
  exact ⟨rfl, hn'.after (turn_of_below HB.out) (fun _ hk => .inl hk) rfl⟩
set_option maxHeartbeats 1000000 in
set_option maxRecDepth 100000 in
theorem rename_any {w : World} {r : Rep} {s : St} {n m : Nat} (h : Sys w r s) (hL : Lim n m s) (hN : n ≤ 100000) (a : ByteArray) (h_a : a.size ≤ maxLen) (b : ByteArray) (h_b : b.size ≤ maxLen) :
    Calls Tryz.prog 143 #[.pointer (some ⟨r.p, 0, none⟩), .string a, .string b] w fun e w' => e = .returned (.int .i64 (s.rename a.data.toList b.data.toList).2) ∧ Next w r (s.rename a.data.toList b.data.toList).1 w' := by
  have h1 := hL.s1
  have hB : ∀ k ∈ r.foot, k < w.heap.size := h.lt
  obtain ⟨W, hW⟩ : ∃ W, W = ((w.alloc (.cells #[.pointer (some ⟨r.p, 0, none⟩)] 63)).alloc (.cells #[.string a] 9)).alloc (.cells #[.string b] 9) := ⟨_, rfl⟩
  have hbW : Below w.heap.size w W := by rw [hW]; exact (((Below.refl _ _).alloc (Nat.le_refl _) _).alloc (by first | (simp; done) | (simp; omega)) _).alloc (by first | (simp; done) | (simp; omega)) _
  have hsW : Sys W r s := h.below hbW
  have hwz : W.heap.size = w.heap.size + 3 := by rw [hW]; simp
  have hk0 : W.cell? ⟨w.heap.size, 0, none⟩ = some (.pointer (some ⟨r.p, 0, none⟩)) := by rw [hW]; exact ocell (by first | (simp; done) | (simp; omega)) (ocell (by first | (simp; done) | (simp; omega)) (ncell (by first | (simp; done) | (simp; omega)) rfl))
  have hk1 : W.cell? ⟨w.heap.size + 1, 0, none⟩ = some (.string a) := by rw [hW]; exact ocell (by first | (simp; done) | (simp; omega)) (ncell (by first | (simp; done) | (simp; omega)) rfl)
  have hk2 : W.cell? ⟨w.heap.size + 2, 0, none⟩ = some (.string b) := by rw [hW]; exact ncell (by first | (simp; done) | (simp; omega)) rfl
  have hcall : Calls Tryz.prog 172 #[.pointer (some ⟨r.p, 0, none⟩), .func (.func 221) #[] #[.pointer (some ⟨w.heap.size, 0, none⟩), .pointer (some ⟨w.heap.size + 1, 0, none⟩), .pointer (some ⟨w.heap.size + 2, 0, none⟩)]] W fun e w' => e = .returned (.int .i64 (s.rename a.data.toList b.data.toList).2) ∧ Next W r (s.rename a.data.toList b.data.toList).1 w' := by
    cases hon : s.on
    · have hc : s.rename a.data.toList b.data.toList = (s, 14) := by unfold St.rename wr; rw [hon]; rfl
      rw [hc]
      refine (write_off _ _ r.p W (by rw [← hon]; exact hsW.c1)).mono ?_
      rintro e w' ⟨he, rfl⟩
      exact ⟨he, hsW.next⟩
    · refine write_on _ _ (fun _ => by kernel_rfl) (actRename a.data.toList b.data.toList) hsW hon hL.s0 (by omega) hL.fuse (fun w1 hs1 ht1 hz1 => ?_) (act_on_rename _ _ _)
      have hne : ∀ k, w.heap.size ≤ k → k ∉ [r.p] := by
        intro k hk
        have := hB r.p (by simp [Rep.foot])
        simp
        omega
      exact rename1_any hs1 hL.begun (by omega) a h_a b h_b _ _ _ ((ht1.cell (by omega) (hne _ (by omega))).trans hk0) ((ht1.cell (by omega) (hne _ (by omega))).trans hk1) ((ht1.cell (by omega) (hne _ (by omega))).trans hk2)
  have Hc := Lib.hid hcall
  have HB := Lib.hid hbW
  clear hcall hk0 hk1 hk2 hsW hwz hbW
  rw [hW] at Hc HB
  clear hW
  go_enter Tryz.func143, Tryz.ntmps143
  go_wp2_with (go_at_call 172; refine Hc.out.mono ?_; rintro e w' ⟨rfl, hn'⟩)
  go_ret
  exact ⟨rfl, hn'.after (turn_of_below HB.out) (fun _ hk => .inl hk) rfl⟩
end Go.Proofs.YtlgcbapgbpofoaaGreat
