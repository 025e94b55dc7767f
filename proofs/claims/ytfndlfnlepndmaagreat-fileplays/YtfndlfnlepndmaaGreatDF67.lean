/- Joined: DF6 DF7. -/
import Derived.Test.YtfndlfnlepndmaaGreatDF45
namespace Go.Proofs.YtfndlfnlepndmaaGreat
open Go.RowKit

/-- What is asked of a state of the document's files. -/
structure DocOk (n m : Nat) (s : St) : Prop where
  lim : Lim n m s
  wf : WF s
  now : s.now = redo s.last s.pend
theorem nm_len {a : Nm} (h : isNm a = true) : 1 ≤ a.length ∧ a.length ≤ 20 := by
  unfold isNm at h
  simpa using h
theorem DocOk.names {n m : Nat} {s : St} (h : DocOk n m s) : ∀ p ∈ s.now, p.1.length ≤ 9223372036854775807 := fun p hp => by have := (nm_len (h.wf.nnms p hp)).2; omega
theorem DocOk.pendl {n m : Nat} {s : St} (h : DocOk n m s) : s.pend.length ≤ n := by have := h.lim.dirs; omega
theorem wr_off {s : St} {act : St → St × Int} (h : s.on = false) : wr s act = (s, 14) := by unfold wr; rw [h]; rfl
theorem wr_on {s : St} {act : St → St × Int} (h : s.on = true) : wr s act = ((act s.begun).1, if s.begun.on then (act s.begun).2 else 14) := by unfold wr; rw [h]; rfl
theorem used_take (F : List Fil) (d : Dir) (k : Nat) (h : k < d.length) : used F (d.take (k + 1)) = used F (d.take k) + (F.getD d[k].2 nofil).b.length := by
  unfold used
  rw [List.take_succ_eq_append_getElem h, List.map_append, List.sum_append]
  simp
theorem cellF_len : ∀ f : Fil, (cellF f).length = 2 := fun _ => rfl
theorem getD_in {F : List Fil} {i : Nat} (h : i < F.length) : F.getD i nofil = F[i] := by rw [List.getD_eq_getElem?_getD, List.getElem?_eq_getElem h]; rfl
section
variable {w w' : World} {q n m : Nat} {s s' : St} {x : RefV}
/-- What can be read of the rows. -/
theorem RefAt.dirrd (h : RefAt w q s x) (k : Nat) (hk : k < s.now.length) : ∃ g c, x.d = .slice (some ⟨g, 0, none⟩) s.now.length c ∧ s.now.length ≤ c ∧ c ≤ maxLen ∧ g < w.heap.size ∧ w.cell? ⟨g, k * 2, none⟩ = some (.string ⟨s.now[k].1.toArray⟩) ∧ w.cell? ⟨g, k * 2 + 1, none⟩ = some (.int .i64 (s.now[k].2 : Int)) := by
  obtain ⟨a, c, e, h1, h2⟩ := h.dir.le
  obtain ⟨g, e2, h3, -, h4, h5⟩ := h.dir.rd e k hk
  exact ⟨g, c, by rw [e, e2], h1, h2, h3, h4, h5⟩
theorem RefAt.filrd (h : RefAt w q s x) (i : Nat) (hi : i < s.files.length) : ∃ g c, x.f = .slice (some ⟨g, 0, none⟩) s.files.length c ∧ s.files.length ≤ c ∧ c ≤ maxLen ∧ g < w.heap.size ∧ w.cell? ⟨g, i * 2, none⟩ = some (.string ⟨s.files[i].b.toArray⟩) ∧ w.cell? ⟨g, i * 2 + 1, none⟩ = some (.int .i64 (s.files[i].syn : Int)) := by
  rcases (show RowZ w 96 2 x.f s.files.length (cellsF s.files) from ⟨h.files, fun h0 => by omega⟩).cases with ⟨h0, -⟩ | ⟨g, cap, e, ho, -, h1, h2, hg, hc⟩
  · omega
  · exact ⟨g, cap, e, h1, h2, hg, hc _ _ (by have := flat_get cellF_len s.files i hi 0 _ rfl; rw [Nat.add_zero] at this; exact this), hc _ _ (flat_get cellF_len s.files i hi 1 _ rfl)⟩
set_option maxHeartbeats 4000000 in
set_option maxRecDepth 100000 in
theorem rused_any (h : RefAt w q s x) (hd : DocOk n m s) (hN : n ≤ 1000000) (hM : m ≤ 1000000000) :
    Calls Tryz.prog 56 #[.pointer (some ⟨q, 0, none⟩)] w fun e w' => e = .returned (.int .i64 (used s.files s.now : Int)) ∧ ∃ j, w' = w.drewN j := by
  have hnl := hd.lim.nowl
  have HB := Lib.hid (show ∀ k, used s.files (s.now.take k) ≤ 1000000000000000 from fun k => by
    have h1 := used_le hd.lim.bytes (s.now.take k)
    have h2 : (s.now.take k).length * m ≤ 1000000 * 1000000000 := Nat.mul_le_mul (by rw [List.length_take]; omega) hM
    omega)
  have HID := Lib.hid (show ∀ k (hk : k < s.now.length), s.now[k].2 < s.files.length from fun k hk => hd.wf.nids _ (List.getElem_mem hk))
  have HR := Lib.hid (show ∀ W, Below w.heap.size w W → RefAt W q s x from fun W hb => h.below hb)
  obtain ⟨a, cap, hxd, hlc, hcm⟩ := h.dir.le
  have HXD := Lib.hid hxd
  clear h hd hxd
  go_enter Tryz.func56, Tryz.ntmps56
  go_wp2
  go_loopw [3, 4] (fun nv iv wr => ∃ k j : Nat, nv = .int .i64 (used s.files (s.now.take k) : Int) ∧ iv = .int .i64 (k : Int) ∧ k ≤ s.now.length ∧ wr = w.drewN j) (fun _ iv _ => s.now.length - (intOf iv).toNat)
  case atStart => exact ⟨0, 0, rfl, rfl, Nat.zero_le _, rfl⟩
  case round =>
    obtain ⟨k, j, rfl, rfl, hk, hwr⟩ := hrel
    have HWR := Lib.hid hwr
    have hr := HR.out wr (by rw [hwr]; exact drewNZ (Below.refl _ _) _)
    clear hwr
    have c6 := hr.cell 6 (.slice a s.now.length cap) (by rw [← HXD.out]; rfl)
    have c8 := hr.cell 8 x.f rfl
    by_cases hlt : k < s.now.length
    · have hkI : (k : Int) < (s.now.length : Int) := by omega
      obtain ⟨g, c, hxd, h1, h2, hg, q0, q1⟩ := hr.dirrd k hlt
      rw [HXD.out] at hxd
      simp only [Value.slice.injEq, true_and] at hxd
      obtain ⟨rfl, rfl⟩ := hxd
      have hidl := HID.out k hlt
      obtain ⟨gf, cf, hxf, h3, h4, hgf, p0, -⟩ := hr.filrd _ hidl
      rw [hxf] at c8
      have hidI : (s.now[k].2 : Int) < (s.files.length : Int) := by omega
      have hid0 : (0 : Int) ≤ (s.now[k].2 : Int) := by omega
      have HST := Lib.hid (used_take s.files s.now k hlt)
      rw [getD_in hidl] at HST
      have hu1 := HB.out k
      have hu2 := HB.out (k + 1)
      rw [HST.out] at hu2
      have hsz : (⟨s.files[s.now[k].2].b.toArray⟩ : ByteArray).size = s.files[s.now[k].2].b.length := by simp [ByteArray.size]
      clear hr hxf q0
      generalize (⟨s.files[s.now[k].2].b.toArray⟩ : ByteArray) = BB at *
      generalize s.files[s.now[k].2].b.length = L at *
      generalize s.now[k].2 = id at *
      subst hsz
      generalize used s.files (s.now.take k) = U at *
      go_wp2
      go_quiet (fail)
      go_wp2
      go_roundw
      case rel => exact ⟨k + 1, j + nq, by rw [HST.out]; go_num, by go_num, hlt, by rw [HWR.out, World.drewN_drewN]⟩
      case measure => simp [intOf]; omega
    · have dk : decide ((k : Int) < (s.now.length : Int)) = false := by simp; omega
      have HF := Lib.hid (show used s.files (s.now.take k) = used s.files s.now by rw [List.take_of_length_le (by omega)])
      clear hr
      go_wp2
      go_ret
      rw [HF.out]
      exact ⟨rfl, j, HWR.out⟩
set_option maxHeartbeats 2000000 in
set_option maxRecDepth 100000 in
theorem rread_any (h : RefAt w q s x) (hd : DocOk n m s) (hN : n ≤ 1000000) (name : ByteArray) :
    Calls Tryz.prog 17 #[.pointer (some ⟨q, 0, none⟩), .string name] w fun e w' => e = .returned (readV (s.read name.data.toList)) ∧ Below w.heap.size w w' := by
  cases hon : s.on with
  | false =>
    have c1 := h.cell 1 (.bool false) (by rw [← hon]; rfl)
    have HR := Lib.hid (show s.read name.data.toList = ([], 14) by unfold St.read; rw [hon]; rfl)
    go_enter Tryz.func17, Tryz.ntmps17
    go_wp2
    go_ret2
    rw [HR.out]
    exact ⟨rfl, Below.refl _ _⟩
  | true =>
    have c1 := h.cell 1 (.bool true) (by rw [← hon]; rfl)
    have c6 := h.cell 6 x.d rfl
    have hl : s.now.length ≤ 1000000 := Nat.le_trans hd.lim.nowl hN
    have CF := Lib.hid (fun W (hb : Below w.heap.size w W) => find_any (h.below hb).dir name hl)
    have HRD := Lib.hid (show s.read name.data.toList = (match dget s.now name.data.toList with | none => ([], 7) | some i => ((s.files.getD i nofil).b, 0)) by unfold St.read; rw [hon]; rfl)
    have HH := Lib.hid h
    rcases fnd_get s.now name.data.toList with ⟨hf, hg⟩ | ⟨k, hk, hf, hnm, hg⟩
    · rw [hf] at CF
      rw [hg] at HRD
      clear hf hg h hd
      go_enter Tryz.func17, Tryz.ntmps17
      go_wp2_with (first | (go_at_call 53; (with_reducible refine (CF.out _ (Below.refl _ _)).mono ?_); rintro e w3 ⟨rfl, hb3⟩) | fail)
      go_ret2
      rw [HRD.out]
      exact ⟨rfl, hb3⟩
    · rw [hf] at CF
      rw [hg] at HRD
      have hid := hd.wf.nids _ (List.getElem_mem hk)
      have HRE := Lib.hid (show s.read name.data.toList = (s.files[s.now[k].2].b, 0) by rw [HRD.out]; show ((s.files.getD s.now[k].2 nofil).b, (0 : Int)) = _; rw [getD_in hid])
      have hidI : (s.now[k].2 : Int) < (s.files.length : Int) := by omega
      have hid0 : (0 : Int) ≤ (s.now[k].2 : Int) := by omega
      have hkI : (k : Int) < (s.now.length : Int) := by omega
      clear hf hg h hd
      go_enter Tryz.func17, Tryz.ntmps17
      go_wp2_with (first | (go_at_call 53; (with_reducible refine (CF.out _ (Below.refl _ _)).mono ?_); rintro e w3 ⟨rfl, hb3⟩; obtain ⟨g, c, hxd, h1, h2, hg, -, q1⟩ := (HH.out.below hb3).dirrd k hk; obtain ⟨gf, cf, hxf, h3, h4, hgf, p0, -⟩ := (HH.out.below hb3).filrd _ hid; have d6 := (HH.out.below hb3).cell 6 _ (show _ = some (.slice (some ⟨g, 0, none⟩) s.now.length c) by rw [← hxd]; rfl); have d8 := (HH.out.below hb3).cell 8 _ (show _ = some (.slice (some ⟨gf, 0, none⟩) s.files.length cf) by rw [← hxf]; rfl)) | fail)
      go_quiet (fail)
      go_wp2
      go_ret2
      rw [HRE.out]
      exact ⟨rfl, drewNZ hb3 _⟩
end
end Go.Proofs.YtfndlfnlepndmaaGreat

namespace Go.Proofs.YtfndlfnlepndmaaGreat
open Go.RowKit

theorem infoSZ : (Tryz.prog.info? 9).map (fun i => (i.zero, i.size, i.bytes)) = some (some (.string ⟨#[]⟩), 1, 16) := by kernel_rfl
theorem srcS_new (b : ByteArray) (w : World) : Src Tryz.prog 1 56 (.slice (some ⟨w.heap.size, 0, none⟩) 1 1) 1 [.string b] (w.alloc (.cells #[.string b] 9)) :=
  Src.ofSlice (P := Tryz.prog) _ (size := 1) Tryz.underlying56 ⟨w.heap.size, 0, none⟩ 1 1 _ rfl (fun j u hu => by
    match j, hu with
    | 0, hu => simpa [Addr.add] using hu) (by simp [Value.oneCell'])
theorem srcF_new (w : World) : Src Tryz.prog 2 73 (.slice (some ⟨w.heap.size, 0, none⟩) 1 1) 1 [.string ⟨#[]⟩, .int .i64 0] (w.alloc (.cells #[.string ⟨#[]⟩, .int .i64 0] 96)) :=
  Src.ofSlice (P := Tryz.prog) _ (size := 2) Tryz.underlying73 ⟨w.heap.size, 0, none⟩ 1 1 _ rfl (fun j u hu => by
    match j, hu with
    | 0, hu => simpa [Addr.add] using hu
    | 1, hu => simpa [Addr.add] using hu) (by simp [Value.oneCell'])
section
variable {w w' : World} {q n m : Nat} {s s' : St} {x : RefV}
set_option maxHeartbeats 4000000 in
set_option maxRecDepth 100000 in
theorem rnames_any (h : RefAt w q s x) (hd : DocOk n m s) (hN : n ≤ 1000000) :
    Calls Tryz.prog 54 #[.pointer (some ⟨q, 0, none⟩)] w fun e w' => ∃ v, e = .returned v ∧ RowZ w' 9 1 v s.names.length (nmVals s.names) ∧ (∀ b, ob v = some b → w.heap.size ≤ b) ∧ Below w.heap.size w w' := by
  have hnl : s.now.length ≤ 1000000 := Nat.le_trans hd.lim.nowl hN
  obtain ⟨i0, hi0, hz0, hzs, hzb⟩ := info_parts infoSZ
  obtain ⟨a, cap, hxd, hlc, hcm⟩ := h.dir.le
  have HXD := Lib.hid hxd
  have HR := Lib.hid (show ∀ W, Below w.heap.size w W → RefAt W q s x from fun W hb => h.below hb)
  cases hon : s.on with
  | false =>
    have c6 := h.cell 6 (.slice a s.now.length cap) (by rw [← hxd]; rfl)
    have c1 := h.cell 1 (.bool false) (by rw [← hon]; rfl)
    have HF := Lib.hid (show s.names = [] by unfold St.names; rw [hon]; rfl)
    clear h hd hxd
    go_enter Tryz.func54, Tryz.ntmps54
    go_wp2
    go_loopw [3, 4] (fun ov iv wr => ov = .slice none 0 0 ∧ iv = .int .i64 0 ∧ wr = w) (fun _ _ _ => 0)
    case atStart => exact ⟨rfl, rfl, rfl⟩
    case round =>
      obtain ⟨rfl, rfl, rfl⟩ := hrel
      rcases Nat.eq_zero_or_pos s.now.length with h0 | h0
      · have d0 : decide ((0 : Int) < (s.now.length : Int)) = false := decide_eq_false (by omega)
        go_wp2
        go_ret
        refine ⟨_, rfl, ?_, fun b hb => noneZ hb, Below.refl _ _⟩
        rw [HF.out]
        exact rowZ_nil _ _ _
      · have d0 : decide ((0 : Int) < (s.now.length : Int)) = true := decide_eq_true (by omega)
        go_wp2
        go_ret
        refine ⟨_, rfl, ?_, fun b hb => noneZ hb, Below.refl _ _⟩
        rw [HF.out]
        exact rowZ_nil _ _ _
  | true =>
    have HF := Lib.hid (show s.names = s.now.map (·.1) by unfold St.names; rw [hon]; rfl)
    have HON := Lib.hid hon
    clear h hd hxd hon
    go_enter Tryz.func54, Tryz.ntmps54
    go_wp2
    go_loopw [3, 4] (fun ov iv wr => ∃ (k : Nat) (V : Value), V = ov ∧ iv = .int .i64 (k : Int) ∧ k ≤ s.now.length ∧ RowZ wr 9 1 V k (nmVals ((s.now.take k).map (·.1))) ∧ (∀ b, ob V = some b → w.heap.size ≤ b) ∧ Below w.heap.size w wr) (fun _ iv _ => s.now.length - (intOf iv).toNat)
    case atStart => exact ⟨0, _, rfl, rfl, Nat.zero_le _, rowZ_nil _ _ _, fun b hb => noneZ hb, Below.refl _ _⟩
    case round =>
      obtain ⟨k, V, rfl, rfl, hk, hrow, hob, hbl⟩ := hrel
      have HRW := Lib.hid hrow
      have HOB := Lib.hid hob
      have HBL := Lib.hid hbl
      have hr := HR.out wr hbl
      have c6 := hr.cell 6 (.slice a s.now.length cap) (by rw [← HXD.out]; rfl)
      have c1 := hr.cell 1 (.bool true) (by rw [← HON.out]; rfl)
      by_cases hlt : k < s.now.length
      · have hkI : (k : Int) < (s.now.length : Int) := by omega
        obtain ⟨g, c, hxd, h1, h2, hg, q0, -⟩ := hr.dirrd k hlt
        rw [HXD.out] at hxd
        simp only [Value.slice.injEq, true_and] at hxd
        obtain ⟨rfl, rfl⟩ := hxd
        have HST := Lib.hid (show nmVals ((s.now.take (k + 1)).map (·.1)) = nmVals ((s.now.take k).map (·.1)) ++ [.string ⟨s.now[k].1.toArray⟩] by
          rw [List.take_succ_eq_append_getElem hlt, List.map_append]
          unfold nmVals
          rw [List.map_append]
          rfl)
        have HBa := Lib.hid (show k + 1 ≤ maxLen by unfold maxLen; omega)
        have HBb := Lib.hid (show (k + 1) * 16 ≤ 140737488355328 by omega)
        clear hr hrow hob hbl
        generalize (⟨s.now[k].1.toArray⟩ : ByteArray) = NM at *
        go_wp2_with (at_builtin; refine wpList_append_row _ rfl _ _ 56 56 rfl 9 i0 _ 1 16 Tryz.underlying56 hi0 hz0 hzs hzb rfl V _ _ rfl (rowZ_below HRW.out.1 ((Below.refl _ _).alloc (Nat.le_refl _) _)) _ rfl 1 _ (srcS_new NM _) HBa.out HBb.out ?_; intro v' w5 hrow5 hgrow5 hob5)
        have hB4 : Below w.heap.size w (wr.alloc (.cells #[.string NM] 9)) := HBL.out.alloc HBL.out.size _
        have hB5 : Below w.heap.size w w5 := hB4.trans ((turn_of_grown (F := (ob V).toList) hgrow5 (fun k hk => .inl (by simp [hk]))).below hB4.size (fun k hk => HOB.out k (by simpa using hk)))
        go_roundw
        case rel =>
          refine ⟨k + 1, v', rfl, by go_num, hlt, ?_, fun b hb => ?_, hB5⟩
          · rw [HST.out]
            exact ⟨hrow5, fun h => by omega⟩
          · exact ob_new2 hob5 hB4.size HOB.out b hb
        case measure => simp [intOf]; omega
      · have hkk : k = s.now.length := by omega
        have hfin : RowZ wr 9 1 V s.names.length (nmVals s.names) := by
          have := HRW.out
          rw [hkk, List.take_length] at this
          rw [HF.out, List.length_map]
          exact this
        have HFI := Lib.hid hfin
        have dk : decide ((k : Int) < (s.now.length : Int)) = false := by simp; omega
        clear hfin hr hrow hob hbl hkk
        go_wp2
        go_ret
        exact ⟨V, rfl, HFI.out, HOB.out, HBL.out⟩
set_option maxHeartbeats 4000000 in
set_option maxRecDepth 100000 in
theorem rremove_any (h : RefAt w q s x) (hd : DocOk n m s) (hN : n ≤ 100000) (name : ByteArray) (hn : name.size ≤ 9223372036854775807) :
    Calls Tryz.prog 45 #[.pointer (some ⟨q, 0, none⟩), .string name] w fun e w' => e = .returned (.int .i64 (s.remove name.data.toList).2) ∧ NextR w q x (s.remove name.data.toList).1 w' := by
  have HH := Lib.hid h
  cases hon : s.on with
  | false =>
    have CO := Lib.hid (op_off h hon)
    have HR := Lib.hid (show s.remove name.data.toList = (s, 14) from wr_off hon)
    clear h hd
    go_enter Tryz.func45, Tryz.ntmps45
    go_wp2_with (first | (go_at_call 123; (with_reducible refine CO.out.mono ?_); rintro e w1 ⟨rfl, rfl⟩) | fail)
    go_ret
    rw [HR.out]
    exact ⟨rfl, NextR.refl HH.out⟩
  | true =>
    have CO := Lib.hid (op_on h hon hd.lim.s0 (by have := hd.lim.s1; omega) hd.lim.fuse)
    have HR := Lib.hid (show s.remove name.data.toList = ((actRemove name.data.toList s.begun).1, if s.begun.on then (actRemove name.data.toList s.begun).2 else 14) from wr_on hon)
    have hl : s.now.length ≤ 1000000 := by have := hd.lim.nowl; omega
    have CF := Lib.hid (fun W (hr : RefAt W q s.begun x) => find_any hr.dir name hl)
    rcases fnd_get s.now name.data.toList with ⟨hf, hg⟩ | ⟨k, hk, hf, hnm, hg⟩
    · have HA := Lib.hid (show actRemove name.data.toList s.begun = (s.begun, 7) by unfold actRemove; rw [show dget s.begun.now name.data.toList = none from hg]; rfl)
      rw [show fnd s.begun.now name.data.toList = -1 from hf] at CF
      clear hf hg h hd
      obtain ⟨st, hst⟩ : ∃ st, st = s.begun.on := ⟨_, rfl⟩
      rw [← hst] at CO HR
      clear hst
      cases st
      all_goals
        go_enter Tryz.func45, Tryz.ntmps45
        go_wp2_with (first | (go_at_call 123; (with_reducible refine CO.out.mono ?_); rintro e w1 ⟨rfl, hr1, ht1, -⟩; have c6 := hr1.cell 6 x.d rfl; have CF1 := Lib.hid (CF.out _ hr1); have HR1 := Lib.hid hr1) | (go_at_call 53; (with_reducible refine CF1.out.mono ?_); rintro e w3 ⟨rfl, hb3⟩) | (go_at_call 124; (with_reducible refine (told_any _ _ _).mono ?_); rintro e w9 ⟨rfl, rfl⟩) | fail)
        go_ret
        rw [HR.out, HA.out]
        exact ⟨rfl, NextR.one (HR1.out.below hb3) (ht1.trans (turnZ [q] hb3) (by simp))⟩
    · have hne : name.data.toList ≠ [] := by rw [← hnm]; exact nm_ne (hd.wf.nnms _ (List.getElem_mem hk))
      have HA := Lib.hid (show actRemove name.data.toList s.begun = (s.begun.doing ⟨name.data.toList, [], none⟩, 0) by unfold actRemove; rw [show dget s.begun.now name.data.toList = some s.now[k].2 from hg]; rfl)
      rw [show fnd s.begun.now name.data.toList = (k : Int) from hf] at CF
      have CD := Lib.hid (fun W (hr : RefAt W q s.begun x) => rdo_any hr ⟨3, name.data.toList, [], 0⟩ ⟨name.data.toList, [], none⟩ (by simp [Cz.run, Chg.run, Chg.less, hne]) hd.now hl (by have := hd.pendl; show s.pend.length ≤ _; omega) hn (by simp) hd.names)
      have hkI : (0 : Int) ≤ (k : Int) := by omega
      clear hf hg hnm h hd hne
      obtain ⟨st, hst⟩ : ∃ st, st = s.begun.on := ⟨_, rfl⟩
      rw [← hst] at CO HR
      clear hst
      cases st
      all_goals
        go_enter Tryz.func45, Tryz.ntmps45
        go_wp2_with (first | (go_at_call 123; (with_reducible refine CO.out.mono ?_); rintro e w1 ⟨rfl, hr1, ht1, -⟩; have c6 := hr1.cell 6 x.d rfl; have CF1 := Lib.hid (CF.out _ hr1); have HR1 := Lib.hid hr1) | (go_at_call 53; (with_reducible refine CF1.out.mono ?_); rintro e w3 ⟨rfl, hb3⟩) | (go_at_call 125; (refine (CD.out _ (HR1.out.below hb3)).mono ?_); rintro e w4 ⟨rfl, hn4⟩) | (go_at_call 124; (with_reducible refine (told_any _ _ _).mono ?_); rintro e w9 ⟨rfl, rfl⟩) | fail)
        go_ret
        rw [HR.out, HA.out]
        exact ⟨rfl, NextR.trans (ht1.trans (turnZ [q] hb3) (by simp)) (fun _ hk => .inl hk) hn4⟩
end
end Go.Proofs.YtfndlfnlepndmaaGreat
