/- Append. -/
import Derived.Test.YtlgcbapgbpofoaaGreatFY
namespace Go.Proofs.YtlgcbapgbpofoaaGreat
open Go.RowKit

theorem infoByte : (Tryz.prog.info? 5).map (fun i => (i.zero, i.size, i.bytes)) = some (some (.int .u8 0), 1, 1) := by kernel_rfl
theorem wrap_same (z : Int) (h1 : -9223372036854775808 ≤ z) (h2 : z ≤ 9223372036854775807) : IntKind.i64.wrap z = z := by
  rw [IntKind.wrap_i64]
  omega
/-- What Append does to a file. -/
theorem append_end {w W w5 : World} {r : Rep} {s : St} {i : Nat} {x : Nat × Value} {f : Fil} {v : Value} (data : List UInt8) (h : Sys w r s) (hx : r.fs[i]? = some x) (hfi : s.files[i]? = some f) (hok : FileOk w x f) (hW : Turn [] w W) (hgrow : W.grownBy w5 (ob x.2))
    (hrow : Row w5 5 1 v (f.b.length + data.length) (byteVals f.b ++ byteVals data)) (hob : ob v = ob x.2 ∨ (ob v = some W.heap.size ∧ W.grownBy w5 none)) :
    Next w r { s with files := s.files.set i ⟨f.b ++ data, f.syn⟩ } (w5.setCell ⟨x.1, 0, none⟩ v) := by
  have hne := fFoot_ne h hx hok
  have hxl : x.1 < w.heap.size := h.lt _ (h.fs_foot hx _ (by simp [fFoot]))
  have hsz := hW.size
  have t5 : Turn (ob x.2).toList w w5 := (hW.mono (G := (ob x.2).toList) (by simp)).trans (turn_of_grown (F := (ob x.2).toList) hgrow (fun k hk => .inl (by simp [hk]))) (fun k hk => .inl hk)
  have t6 : Turn (fFoot x) w (w5.setCell ⟨x.1, 0, none⟩ v) := (t5.mono (G := fFoot x) (fun k hk => .inl (by simp [fFoot] at hk ⊢; exact .inr hk))).setCell (.inl (by simp [fFoot])) v
  have hc5 : w5.heap[x.1]? = some (.cells #[x.2, .int .i64 f.syn] 203) := by
    rw [t5.block x.1 hxl (by simpa using hne)]
    exact hok.cells
  have hov : ∀ k, ob v = some k → k ≠ x.1 := by
    intro k hk e
    rcases hob with hob | ⟨hob, -⟩
    · rw [hob, e] at hk
      exact hne hk
    · rw [hob] at hk
      simp at hk
      omega
  have ho : ob v = ob x.2 ∨ ob v = none ∨ ∃ g, ob v = some g ∧ w.heap.size ≤ g := by
    rcases hob with hob | ⟨hob, -⟩
    · exact .inl hob
    · exact .inr (.inr ⟨_, hob, hsz⟩)
  have ok' : FileOk (w5.setCell ⟨x.1, 0, none⟩ v) (x.1, v) ⟨f.b ++ data, f.syn⟩ := by
    refine ⟨heap_setCell_same w5 x.1 0 _ _ v hc5, ?_, ?_⟩
    · have e : byteVals (f.b ++ data) = byteVals f.b ++ byteVals data := by simp [byteVals]
      show Row _ _ 1 v (f.b ++ data).length (byteVals (f.b ++ data))
      rw [e, List.length_append]
      exact hrow.kept fun k hk => heap_setCell_other w5 ⟨x.1, 0, none⟩ k v (hov k hk)
    · have := hok.syn
      simp
      omega
  refine ⟨r.refile i (x.1, v), h.refile hx hfi ok' rfl ho (fun k hk hn => t6.block k hk hn), rfl, t6.mono (fun k hk => .inl (h.fs_foot hx k hk)), refile_foot hx rfl ho⟩
set_option maxHeartbeats 4000000 in
set_option maxRecDepth 100000 in
theorem append1_any {w : World} {r : Rep} {s : St} {n m : Nat} (h : Sys w r s) (hL : Lim n m s) (hN : n ≤ 1000000) (name : ByteArray) (hn : name.size ≤ maxLen) (data : ByteArray) (_ : data.size ≤ maxLen) (hM : m ≤ 1000000000) (hD : data.size ≤ 1000000000) (bf bn bd : Nat) (kf : w.cell? ⟨bf, 0, none⟩ = some (.pointer (some ⟨r.p, 0, none⟩))) (kn : w.cell? ⟨bn, 0, none⟩ = some (.string name)) (kd : w.cell? ⟨bd, 0, none⟩ = some (.string data)) :
    Calls Tryz.prog 215 #[.pointer (some ⟨bf, 0, none⟩), .pointer (some ⟨bn, 0, none⟩), .pointer (some ⟨bd, 0, none⟩)] w fun e w' => e = .returned (.int .i64 (actAppend name.data.toList data.data.toList s).2) ∧ Next w r (actAppend name.data.toList data.data.toList s).1 w' := by
  have c6 := h.c6
  have hlook := dirLook (h.now.kept (w' := w.drew) rfl) name hn
  rw [mapD_get] at hlook
  cases hg : dget s.now name.data.toList with
  | none =>
    have hfin := Lib.hid (show actAppend name.data.toList data.data.toList s = (s, 7) by unfold actAppend; rw [hg])
    rw [hg, pAt_none] at hlook
    clear hg
    go_enter Tryz.func215, Tryz.ntmps215
    go_wp2
    go_region_held3 (fun w' => w'.cell? ⟨bn, 0, none⟩ = some (.string name) ∧ w'.cell? ⟨bf, 0, none⟩ = some (.pointer (some ⟨r.p, 0, none⟩)) ∧ w'.cell? ⟨r.p, 6, none⟩ = some (.map (some r.mn)) ∧ (Instr.lookup 164 (.map (some r.mn)) (.string name) false).run Tryz.prog w' = .ok (.pointer none) w') (go_keep) (fail)
    go_wp2
    go_ret
    rw [hfin.out]
    exact ⟨rfl, h.drew.next.drew0⟩
  | some i =>
    obtain ⟨x, f, hx, hfi, hok, hat, hgd⟩ := h.here hg
    rw [hg, pAt_map, hat] at hlook
    have c2 := h.c2
    have hroom := hL.room
    have hu := used_le hL.bytes s.now
    have hu2 : used s.files s.now ≤ 1000000000000000 := by
      have := hL.now h.wf
      have : s.now.length * m ≤ 1000000 * 1000000000 := Nat.mul_le_mul (by omega) hM
      omega
    have hA : actAppend name.data.toList data.data.toList s = if 0 < s.room ∧ s.room - used s.files s.now < data.size then (s, 10) else ({ s with files := s.files.set i ⟨f.b ++ data.data.toList, f.syn⟩ }, 0) := by
      unfold actAppend
      rw [hg]
      simp only [hgd]
      rfl
    have Hu := Lib.hid (fun W (hW : Sys W r s) => used_any hW hL hN hM)
    have hbf : bf < w.heap.size := World.block_lt_of_cell? w ⟨bf, 0, none⟩ kf
    have hbd : bd < w.heap.size := World.block_lt_of_cell? w ⟨bd, 0, none⟩ kd
    have hpl : r.p < w.heap.size := h.lt _ (by simp [Rep.foot])
    have hxl : x.1 < w.heap.size := h.lt _ (h.fs_foot hx _ (by simp [fFoot]))
    clear hu hg hgd hat
    by_cases hr : 0 < s.room
    · by_cases hfull : s.room - used s.files s.now < data.size
      · have hfin := Lib.hid (hA.trans (if_pos ⟨hr, hfull⟩))
        generalize used s.files s.now = u at hfull hu2 Hu
        clear hA
        have hd1 : decide (0 < s.room) = true := by simpa using hr
        have hw : IntKind.i64.wrap (s.room - (u : Int)) = s.room - (u : Int) := wrap_same _ (by omega) (by omega)
        have hd2 : decide (s.room - (u : Int) < (data.size : Int)) = true := by simpa using hfull
        go_enter Tryz.func215, Tryz.ntmps215
        go_wp2
        go_region_held3 (fun w' => w'.cell? ⟨bn, 0, none⟩ = some (.string name) ∧ w'.cell? ⟨bf, 0, none⟩ = some (.pointer (some ⟨r.p, 0, none⟩)) ∧ w'.cell? ⟨r.p, 6, none⟩ = some (.map (some r.mn)) ∧ (Instr.lookup 164 (.map (some r.mn)) (.string name) false).run Tryz.prog w' = .ok (.pointer (some ⟨x.1, 0, none⟩)) w') (go_keep) (fail)
        go_wp2
        go_region_held3 (fun w' => w'.cell? ⟨bf, 0, none⟩ = some (.pointer (some ⟨r.p, 0, none⟩)) ∧ w'.cell? ⟨r.p, 2, none⟩ = some (.int .i64 s.room) ∧ w'.cell? ⟨bd, 0, none⟩ = some (.string data)) (first | go_keep | exact ⟨k3f, k32, k3d⟩) (first | (go_at_call 162; refine (Hu.out _ (by exact h.kept fun _ _ => rfl)).mono ?_; rintro e w3 ⟨rfl, hb3⟩; have k3f : w3.cell? ⟨bf, 0, none⟩ = some (.pointer (some ⟨r.p, 0, none⟩)) := (hb3.cell (p := ⟨bf, 0, none⟩) hbf).trans kf; have k32 : w3.cell? ⟨r.p, 2, none⟩ = some (.int .i64 s.room) := (hb3.cell (p := ⟨r.p, 2, none⟩) hpl).trans c2; have k3d : w3.cell? ⟨bd, 0, none⟩ = some (.string data) := (hb3.cell (p := ⟨bd, 0, none⟩) hbd).trans kd))
        go_wp2
        go_ret
        rw [hfin.out]
        have hbw : Below w.heap.size w w3 := ⟨hb3.os, hb3.tape, hb3.output, hb3.size, hb3.block⟩
        exact ⟨rfl, (h.below hbw).next.after (turn_of_below hbw) (fun _ hk => .inl hk) rfl⟩
      · have hfin := Lib.hid (hA.trans (if_neg (fun e => hfull e.2)))
        generalize used s.files s.now = u at hfull hu2 Hu
        clear hA
        have hd1 : decide (0 < s.room) = true := by simpa using hr
        have hw : IntKind.i64.wrap (s.room - (u : Int)) = s.room - (u : Int) := wrap_same _ (by omega) (by omega)
        have hd2 : decide (s.room - (u : Int) < (data.size : Int)) = false := by simpa using hfull
        clear hfull
        go_enter Tryz.func215, Tryz.ntmps215
        go_wp2
        go_region_held3 (fun w' => w'.cell? ⟨bn, 0, none⟩ = some (.string name) ∧ w'.cell? ⟨bf, 0, none⟩ = some (.pointer (some ⟨r.p, 0, none⟩)) ∧ w'.cell? ⟨r.p, 6, none⟩ = some (.map (some r.mn)) ∧ (Instr.lookup 164 (.map (some r.mn)) (.string name) false).run Tryz.prog w' = .ok (.pointer (some ⟨x.1, 0, none⟩)) w') (go_keep) (fail)
        go_wp2
        go_region_held3 (fun w' => w'.cell? ⟨bf, 0, none⟩ = some (.pointer (some ⟨r.p, 0, none⟩)) ∧ w'.cell? ⟨r.p, 2, none⟩ = some (.int .i64 s.room) ∧ w'.cell? ⟨bd, 0, none⟩ = some (.string data)) (first | go_keep | exact ⟨k3f, k32, k3d⟩) (first | (go_at_call 162; refine (Hu.out _ (by exact h.kept fun _ _ => rfl)).mono ?_; rintro e w3 ⟨rfl, hb3⟩; have k3f : w3.cell? ⟨bf, 0, none⟩ = some (.pointer (some ⟨r.p, 0, none⟩)) := (hb3.cell (p := ⟨bf, 0, none⟩) hbf).trans kf; have k32 : w3.cell? ⟨r.p, 2, none⟩ = some (.int .i64 s.room) := (hb3.cell (p := ⟨r.p, 2, none⟩) hpl).trans c2; have k3d : w3.cell? ⟨bd, 0, none⟩ = some (.string data) := (hb3.cell (p := ⟨bd, 0, none⟩) hbd).trans kd))
        have hbw : Below w.heap.size w w3 := ⟨hb3.os, hb3.tape, hb3.output, hb3.size, hb3.block⟩
        have hx3 : x.1 < w3.heap.size := Nat.lt_of_lt_of_le hxl hb3.size
        have hok3 : FileOk w3 x f := hok.kept fun k hk => hb3.block k (h.lt k (h.fs_foot hx k hk))
        have k0 := hok3.c0
        have fr0 := hok3.warm 0
        have HR := Lib.hid (hok3.row.kept (w' := w3.drew) fun _ _ => rfl)
        have HSrc := Lib.hid (Src.ofString (P := Tryz.prog) w3.drew Tryz.underlying9 data)
        have hlen : f.b.length ≤ 1000000000 := Nat.le_trans (hL.bytes f (List.mem_of_getElem? hfi)) hM
        have HB1 := Lib.hid (show f.b.length + data.size ≤ maxLen by unfold maxLen; omega)
        have HB2 := Lib.hid (show (f.b.length + data.size) * 1 ≤ 140737488355328 by omega)
        have hxo : some x.1 ≠ ob x.2 := fun e => fFoot_ne h hx hok e.symm
        obtain ⟨i0, hi, hz0, hzs, hzb⟩ := info_parts infoByte
        go_wp2
        go_region_law (refine step_append_row _ rfl (.tmp 34) (.tmp 35) 109 9 rfl 5 i0 _ 1 1 Tryz.underlying109 hi hz0 hzs hzb rfl x.2 _ _ (by simp [Act.eval]) HR.out _ (by simp [Act.eval]) data.size _ HSrc.out HB1.out HB2.out ?_; intro v' w5 hrow5 hgrow5 hob5; obtain ⟨a5, c5, rfl, -, -⟩ := hrow5.le; have k58 : w5.cell? ⟨x.1, 0, none⟩ = some x.2 := hgrow5.cell (a := ⟨x.1, 0, none⟩) (by simpa using k0) hxo; have f58 : w5.frozen? ⟨x.1, 0, none⟩ = false := (World.frozen?_of_block (hgrow5.block x.1 (by simpa using hx3) hxo)).trans (by simpa using fr0))
        all_goals go_wp2
        all_goals go_ret
        all_goals
          rw [hfin.out]
          exact ⟨rfl, append_end data.data.toList h hx hfi hok ((turn_of_below hbw).drew) hgrow5 hrow5 hob5⟩
    · have hfin := Lib.hid (hA.trans (if_neg (fun e => hr e.1)))
      clear hA
      have hd1 : decide (0 < s.room) = false := by simpa using hr
      have hx3 := hxl
      go_enter Tryz.func215, Tryz.ntmps215
      go_wp2
      go_region_held3 (fun w' => w'.cell? ⟨bn, 0, none⟩ = some (.string name) ∧ w'.cell? ⟨bf, 0, none⟩ = some (.pointer (some ⟨r.p, 0, none⟩)) ∧ w'.cell? ⟨r.p, 6, none⟩ = some (.map (some r.mn)) ∧ (Instr.lookup 164 (.map (some r.mn)) (.string name) false).run Tryz.prog w' = .ok (.pointer (some ⟨x.1, 0, none⟩)) w') (go_keep) (fail)
      go_wp2
      go_quiet (fail)
      have k0 := hok.c0
      have fr0 := hok.warm 0
      have HR := Lib.hid (fun N => hok.row.kept (w' := w.drewN N) fun _ _ => rfl)
      have HSrc := Lib.hid (fun N => Src.ofString (P := Tryz.prog) (w.drewN N) Tryz.underlying9 data)
      have hlen : f.b.length ≤ 1000000000 := Nat.le_trans (hL.bytes f (List.mem_of_getElem? hfi)) hM
      have HB1 := Lib.hid (show f.b.length + data.size ≤ maxLen by unfold maxLen; omega)
      have HB2 := Lib.hid (show (f.b.length + data.size) * 1 ≤ 140737488355328 by omega)
      have hxo : some x.1 ≠ ob x.2 := fun e => fFoot_ne h hx hok e.symm
      obtain ⟨i0, hi, hz0, hzs, hzb⟩ := info_parts infoByte
      go_wp2
      go_region_law (refine step_append_row _ rfl (.tmp 34) (.tmp 35) 109 9 rfl 5 i0 _ 1 1 Tryz.underlying109 hi hz0 hzs hzb rfl x.2 _ _ (by simp [Act.eval]) (HR.out _) _ (by simp [Act.eval]) data.size _ (HSrc.out _) HB1.out HB2.out ?_; intro v' w5 hrow5 hgrow5 hob5; obtain ⟨a5, c5, rfl, -, -⟩ := hrow5.le; have k58 : w5.cell? ⟨x.1, 0, none⟩ = some x.2 := hgrow5.cell (a := ⟨x.1, 0, none⟩) (by simpa using k0) hxo; have f58 : w5.frozen? ⟨x.1, 0, none⟩ = false := (World.frozen?_of_block (hgrow5.block x.1 (by simpa using hx3) hxo)).trans (by simpa using fr0))
      all_goals go_wp2
      all_goals go_ret
      all_goals
        rw [hfin.out]
        exact ⟨rfl, append_end data.data.toList h hx hfi hok ((Turn.refl [] w).drewN _) hgrow5 hrow5 hob5⟩
end Go.Proofs.YtlgcbapgbpofoaaGreat
