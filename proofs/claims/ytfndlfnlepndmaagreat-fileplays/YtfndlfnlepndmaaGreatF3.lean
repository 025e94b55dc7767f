/- Joined: FU FV FW FX FY FZ F1. -/
import Derived.Test.YtfndlfnlepndmaaGreatF2
import Derived.Shelf.SlMaps.Clone
import Derived.Lib.BufferRead
namespace Go.Proofs.YtfndlfnlepndmaaGreat
open Go.RowKit

theorem isName_any (name : ByteArray) (w : World) (hn : name.size ≤ maxLen) :
    Calls Tryz.prog 30 #[.string name] w fun e w' => e = .returned (.bool (isNm name.data.toList)) ∧ w = w' := by
  have hl : name.data.toList.length = name.size := rfl
  have hI := Lib.hid (show isNm name.data.toList = (decide (1 ≤ name.size) && decide (name.size ≤ 20)) by unfold isNm; rw [hl])
  clear hl
  unfold maxLen at hn
  by_cases h1 : 1 ≤ name.size
  · by_cases h2 : name.size ≤ 20
    · go_enter Tryz.func30, Tryz.ntmps30
      go_wp2
      go_ret
      exact ⟨by rw [hI.out]; simp [h1, h2]; omega, rfl⟩
    · go_enter Tryz.func30, Tryz.ntmps30
      go_wp2
      go_ret
      exact ⟨by rw [hI.out]; simp [h1, h2]; omega, rfl⟩
  · go_enter Tryz.func30, Tryz.ntmps30
    go_wp2
    go_ret
    exact ⟨by rw [hI.out]; simp [h1], rfl⟩
def Rep.more (r : Rep) (b : Nat) : Rep := { r with fs := r.fs ++ [(b, .slice none 0 0)] }
theorem more_at (r : Rep) (b i : Nat) (hi : i < r.fs.length) : (r.more b).at i = r.at i := by
  unfold Rep.at Rep.more
  rw [List.getD_eq_getElem?_getD, List.getD_eq_getElem?_getD, List.getElem?_append_left hi]
theorem more_new (r : Rep) (b : Nat) : (r.more b).at r.fs.length = b := by
  unfold Rep.at Rep.more
  rw [List.getD_eq_getElem?_getD, List.getElem?_append_right (Nat.le_refl _)]
  simp
theorem more_foot (r : Rep) (b k : Nat) : k ∈ (r.more b).foot ↔ k ∈ r.foot ∨ k = b := by
  rw [foot_iff, foot_iff]
  simp only [Rep.more, List.flatMap_append, List.mem_append]
  have : k ∈ [(b, Value.slice none 0 0)].flatMap fFoot ↔ k = b := by simp [fFoot, ob]
  rw [this]
  constructor
  · rintro (h | h | h | h | h | h)
    · exact .inl (.inl h)
    · exact .inl (.inr (.inl h))
    · exact .inl (.inr (.inr (.inl h)))
    · exact .inl (.inr (.inr (.inr (.inl h))))
    · exact .inl (.inr (.inr (.inr (.inr h))))
    · exact .inr h
  · rintro ((h | h | h | h | h) | h)
    · exact .inl h
    · exact .inr (.inl h)
    · exact .inr (.inr (.inl h))
    · exact .inr (.inr (.inr (.inl h)))
    · exact .inr (.inr (.inr (.inr (.inl h))))
    · exact .inr (.inr (.inr (.inr (.inr h))))
theorem WF.now_ids {s : St} (h : WF s) : ∀ p ∈ s.now, p.2 < s.files.length := h.nids
theorem WF.more {s : St} (h : WF s) : WF s.more :=
  ⟨fun p hp => by have := h.nids p hp; simp [St.more]; omega, h.nnms, fun p hp => by have := h.ids p hp; simp [St.more]; omega, fun c hc i hi => by have := h.made c hc i hi; simp [St.more]; omega, h.nms, h.cnms⟩
theorem chgCells_congr {f g : Nat → Nat} {l : List Chg} (h : ∀ c ∈ l, ∀ i, c.made = some i → f i = g i) : l.flatMap (chgCells f) = l.flatMap (chgCells g) := by
  induction l with
  | nil => rfl
  | cons c l ih =>
    rw [List.flatMap_cons, List.flatMap_cons, ih (fun c' hc' => h c' (List.mem_cons_of_mem _ hc'))]
    congr 1
    unfold chgCells
    cases hm : c.made with
    | none => rfl
    | some i => simp only [Option.map_some, h c (by simp) i hm]
/-- A new file, that has no name yet. -/
theorem Sys.more {w : World} {r : Rep} {s : St} (h : Sys w r s) : Sys (w.alloc (.cells #[.slice none 0 0, .int .i64 0] 87)) (r.more w.heap.size) s.more := by
  have hk : ∀ k ∈ r.foot, (w.alloc (.cells #[.slice none 0 0, .int .i64 0] 87)).heap[k]? = w.heap[k]? := fun k hk => Below.heap_alloc w _ k (h.lt k hk)
  have hs := h.kept hk
  refine ⟨hs.cells, ?_, ?_, ?_, ?_, ?_, ?_, h.wf.more⟩
  · rw [mapD_congr (g := r.at) (fun p hp => more_at r _ _ (by rw [h.len]; exact h.wf.now_ids p hp))]
    exact hs.now
  · rw [mapD_congr (g := r.at) (fun p hp => more_at r _ _ (by rw [h.len]; exact h.wf.ids p hp))]
    exact hs.last
  · rw [show s.more.pend = s.pend from rfl, chgCells_congr (g := r.at) (fun c hc i hi => more_at r _ _ (by rw [h.len]; exact h.wf.made c hc i hi))]
    exact hs.pend
  · simp [Rep.more, St.more, h.len]
  · intro i x f hx hf
    simp only [Rep.more, St.more] at hx hf
    by_cases hi : i < r.fs.length
    · rw [List.getElem?_append_left hi] at hx
      rw [List.getElem?_append_left (by rw [← h.len]; exact hi)] at hf
      exact hs.file i x f hx hf
    · rw [List.getElem?_append_right (by omega)] at hx
      rw [List.getElem?_append_right (by rw [← h.len]; omega)] at hf
      rw [h.len] at hx
      have h0 : i - s.files.length = 0 := by
        have := (List.getElem?_eq_some_iff.1 hx).1
        simp at this
        omega
      rw [h0] at hx hf
      simp at hx hf
      subst hx
      subst hf
      exact ⟨heap_alloc_new w _, row_nil _ _ _, Nat.le_refl _⟩
  · have hn : w.heap.size ∉ r.foot := fun hm => Nat.lt_irrefl _ (h.lt _ hm)
    have : (r.more w.heap.size).foot = r.foot ++ [w.heap.size] := by
      simp [Rep.foot, Rep.rest, Rep.more, fFoot, ob]
    rw [this]
    exact List.nodup_append.2 ⟨h.apart, by simp, fun a ha b hb => by simp at hb; subst hb; exact fun e => hn (e ▸ ha)⟩

theorem pAt_map (f : Nat → Nat) (i : Nat) : pAt (Option.map f (some i)) = .pointer (some ⟨f i, 0, none⟩) := rfl
theorem pAt_none (f : Nat → Nat) : pAt (Option.map f none) = .pointer none := rfl
/-- How great a state is. -/
structure Lim (n m : Nat) (s : St) : Prop where
  s0 : 0 ≤ s.steps
  s1 : s.steps ≤ n
  dirs : s.last.length + s.pend.length ≤ n
  nowl : s.now.length ≤ n
  files : s.files.length ≤ n
  bytes : ∀ f ∈ s.files, f.b.length ≤ m
  fuse : s.fuse ≤ 9223372036854775807
  bad : s.bad ≤ 9223372036854775807
  room : s.room ≤ 9223372036854775807
theorem run_length (c : Chg) (d : Dir) : (c.run d).length ≤ d.length + 1 := by
  have h1 : (c.less d).length ≤ d.length := by
    unfold Chg.less
    split
    · exact Nat.le_refl _
    · exact length_ddel _ _
  unfold Chg.run
  split
  · omega
  · split
    · have := length_dput (c.less d) c.dst (by assumption)
      omega
    · omega
theorem redo_length : ∀ (l : List Chg) (d : Dir), (redo d l).length ≤ d.length + l.length
  | [], d => by simp [redo]
  | c :: l, d => by
    have h1 := redo_length l (c.run d)
    have h2 := run_length c d
    show (redo (c.run d) l).length ≤ _
    simp only [List.length_cons]
    omega
theorem Lim.now {n m : Nat} {s : St} (h : Lim n m s) (_ : WF s) : s.now.length ≤ n := h.nowl
theorem tick_le {c : Int} (h : c ≤ 9223372036854775807) : tick c ≤ 9223372036854775807 := by
  unfold tick
  split <;> omega
theorem Lim.begun {n m : Nat} {s : St} (h : Lim n m s) : Lim (n + 1) m s.begun :=
  ⟨by have := h.s0; simp [St.begun]; omega, by have := h.s1; simp [St.begun]; omega, by have := h.dirs; simp [St.begun]; omega, by have := h.nowl; simp [St.begun]; omega, by have := h.files; simp [St.begun]; omega, h.bytes, tick_le h.fuse, h.bad, h.room⟩
set_option maxHeartbeats 1000000 in
set_option maxRecDepth 100000 in
theorem create1_any {w : World} {r : Rep} {s : St} {n m : Nat} (h : Sys w r s) (hL : Lim n m s) (hN : n ≤ 1000000) (name : ByteArray) (hn : name.size ≤ maxLen) (bn bf : Nat) (kn : w.cell? ⟨bn, 0, none⟩ = some (.string name)) (kf : w.cell? ⟨bf, 0, none⟩ = some (.pointer (some ⟨r.p, 0, none⟩))) :
    Calls Tryz.prog 29 #[.pointer (some ⟨bn, 0, none⟩), .pointer (some ⟨bf, 0, none⟩)] w fun e w' => e = .returned (.int .i64 (actCreate name.data.toList s).2) ∧ Next w r (actCreate name.data.toList s).1 w' := by
  have hI := Lib.hid (fun w' : World => isName_any name w' hn)
  cases hnm : isNm name.data.toList
  · have hfin := Lib.hid (show actCreate name.data.toList s = (s, 1) by unfold actCreate; rw [hnm]; rfl)
    rw [hnm] at hI
    clear hnm
    go_enter Tryz.func29, Tryz.ntmps29
    go_wp2_with (go_at_call 30; refine (hI.out _).mono ?_; rintro e w1 ⟨rfl, rfl⟩)
    go_ret
    rw [hfin.out]
    exact ⟨rfl, h.next⟩
  · rw [hnm] at hI
    have c6 := h.c6
    have hlook := dirLook (h.now.kept (w' := w.drew) rfl) name hn
    rw [mapD_get] at hlook
    cases hg : dget s.now name.data.toList with
    | some i =>
      have hfin := Lib.hid (show actCreate name.data.toList s = (s, 8) by unfold actCreate; rw [hnm, hg]; rfl)
      rw [hg, pAt_map] at hlook
      clear hnm hg
      go_enter Tryz.func29, Tryz.ntmps29
      go_wp2_with (go_at_call 30; refine (hI.out _).mono ?_; rintro e w1 ⟨rfl, rfl⟩)
      go_region_held3 (fun w' => w'.cell? ⟨bn, 0, none⟩ = some (.string name) ∧ w'.cell? ⟨bf, 0, none⟩ = some (.pointer (some ⟨r.p, 0, none⟩)) ∧ w'.cell? ⟨r.p, 6, none⟩ = some (.map (some r.mn)) ∧ (Instr.lookup 67 (.map (some r.mn)) (.string name) false).run Tryz.prog w' = .ok (.pointer (some ⟨r.at i, 0, none⟩)) w') (go_keep) (fail)
      go_wp2
      go_ret
      rw [hfin.out]
      exact ⟨rfl, h.drew.next.drew0⟩
    | none =>
      have hfin := Lib.hid (show actCreate name.data.toList s = (s.more.doing ⟨[], name.data.toList, some s.files.length⟩, 0) by unfold actCreate; rw [hnm, hg]; rfl)
      rw [hg, pAt_none] at hlook
      have hsz : name.size ≤ 20 := by
        have hl : name.data.toList.length = name.size := rfl
        simp [isNm, hl] at hnm
        exact hnm.2
      have hnow := hL.now h.wf
      have hpend := hL.dirs
      have hfit : (Chg.mk ([] : Nm) name.data.toList (some s.files.length)).fits s.more :=
        ⟨.inr (by simp [Chg.file]), fun i hi => by simp at hi; subst hi; simp [St.more], .inl rfl, .inr hnm⟩
      have hdo := do_any h.more.drew ⟨#[]⟩ name (some s.files.length) hfit (by simp [ByteArray.size]) (by omega) (by show s.now.length ≤ _; omega) (by show s.pend.length ≤ _; omega)
      rw [pAt_map, ← h.len, more_new] at hdo
      have Hdo := Lib.hid hdo
      have Hmore := Lib.hid h.more
      clear hdo hfit hnm hg hnow hpend
      go_enter Tryz.func29, Tryz.ntmps29
      go_wp2_with (go_at_call 30; refine (hI.out _).mono ?_; rintro e w1 ⟨rfl, rfl⟩)
      go_region_held3 (fun w' => w'.cell? ⟨bn, 0, none⟩ = some (.string name) ∧ w'.cell? ⟨bf, 0, none⟩ = some (.pointer (some ⟨r.p, 0, none⟩)) ∧ w'.cell? ⟨r.p, 6, none⟩ = some (.map (some r.mn)) ∧ (Instr.lookup 67 (.map (some r.mn)) (.string name) false).run Tryz.prog w' = .ok (.pointer none) w') (go_keep) (fail)
      go_wp2_with (go_at_call 31; refine Hdo.out.mono ?_; rintro e w2 ⟨rfl, hn2⟩)
      go_ret
      rw [hfin.out, ← h.len]
      refine ⟨rfl, hn2.after (r := r) (((Turn.refl r.foot w).alloc _).drew) (fun k hk => ?_) rfl⟩
      rcases (more_foot r w.heap.size k).1 hk with hk | hk
      · exact .inl hk
      · exact .inr (by omega)
theorem act_on_create (n : Nm) (s : St) : (actCreate n s).1.on = s.on := by
  unfold actCreate
  split
  · split <;> rfl
  · rfl
theorem actCreate_lim {n m : Nat} {s : St} (h : Lim n m s) (nm : Nm) : Lim (n + 1) m (actCreate nm s).1 := by
  have h1 := h.s1
  have h2 := h.dirs
  have h3 := h.files
  have h4 := h.nowl
  have hw : Lim (n + 1) m s := ⟨h.s0, by omega, by omega, by omega, by omega, h.bytes, h.fuse, h.bad, h.room⟩
  unfold actCreate
  split
  · split
    · exact hw
    · refine ⟨h.s0, hw.s1, ?_, ?_, ?_, ?_, h.fuse, h.bad, h.room⟩
      · simp [St.doing, St.more]
        omega
      · have := run_length ⟨[], nm, some s.files.length⟩ s.now
        simp only [St.doing, St.more]
        omega
      · simp [St.doing, St.more]
        omega
      · intro f hf
        simp only [St.doing, St.more, List.mem_append, List.mem_singleton] at hf
        rcases hf with hf | rfl
        · exact h.bytes f hf
        · exact Nat.zero_le _
  · exact hw
theorem wr_lim {n m n' m' : Nat} {s : St} {act : St → St × Int} (h : Lim n' m' s) (hact : s.on = true → Lim n m (act s.begun).1) (hn : n' ≤ n) (hm : m' ≤ m) : Lim n m (wr s act).1 := by
  unfold wr
  split
  · exact hact (by assumption)
  · have h1 := h.s1
    have h2 := h.dirs
    have h3 := h.files
    have h4 := h.nowl
    show Lim n m s
    exact ⟨h.s0, by omega, by omega, by omega, by omega, fun f hf => Nat.le_trans (h.bytes f hf) hm, h.fuse, h.bad, h.room⟩
theorem box_two {w : World} {a b : Value} {s t : TypeId} : ((w.alloc (.cells #[a] s)).alloc (.cells #[b] t)).cell? ⟨w.heap.size, 0, none⟩ = some a ∧ ((w.alloc (.cells #[a] s)).alloc (.cells #[b] t)).cell? ⟨w.heap.size + 1, 0, none⟩ = some b := by
  constructor <;> simp
set_option maxHeartbeats 1000000 in
set_option maxRecDepth 100000 in
theorem create_any {w : World} {r : Rep} {s : St} {n m : Nat} (h : Sys w r s) (hL : Lim n m s) (hN : n ≤ 100000) (name : ByteArray) (hn : name.size ≤ maxLen) :
    Calls Tryz.prog 9 #[.pointer (some ⟨r.p, 0, none⟩), .string name] w fun e w' => e = .returned (.int .i64 (s.create name.data.toList).2) ∧ Next w r (s.create name.data.toList).1 w' := by
  have h1 := hL.s1
  have hB : ∀ k ∈ r.foot, k < w.heap.size := h.lt
  obtain ⟨W, hW⟩ : ∃ W, W = (w.alloc (.cells #[.pointer (some ⟨r.p, 0, none⟩)] 25)).alloc (.cells #[.string name] 9) := ⟨_, rfl⟩
  have hbW : Below w.heap.size w W := by rw [hW]; exact ((Below.refl _ _).alloc (Nat.le_refl _) _).alloc (by simp) _
  have hsW : Sys W r s := h.below hbW
  have hwz : W.heap.size = w.heap.size + 2 := by rw [hW]; simp
  have hk := box_two (w := w) (a := .pointer (some ⟨r.p, 0, none⟩)) (b := .string name) (s := 25) (t := 9)
  rw [← hW] at hk
  have hcall : Calls Tryz.prog 28 #[.pointer (some ⟨r.p, 0, none⟩), .func (.func 29) #[] #[.pointer (some ⟨w.heap.size + 1, 0, none⟩), .pointer (some ⟨w.heap.size, 0, none⟩)]] W fun e w' => e = .returned (.int .i64 (s.create name.data.toList).2) ∧ Next W r (s.create name.data.toList).1 w' := by
    cases hon : s.on
    · have hc : s.create name.data.toList = (s, 14) := by unfold St.create wr; rw [hon]; rfl
      rw [hc]
      refine (write_off _ _ r.p W (by rw [← hon]; exact hsW.c1)).mono ?_
      rintro e w' ⟨he, rfl⟩
      exact ⟨he, hsW.next⟩
    · refine write_on _ _ (fun _ => by kernel_rfl) (actCreate name.data.toList) hsW hon hL.s0 (by omega) hL.fuse (fun w1 hs1 ht1 hz1 => ?_) (act_on_create _ _)
      have hne : ∀ k, w.heap.size ≤ k → k ∉ [r.p] := by
        intro k hk
        have := hB r.p (by simp [Rep.foot])
        simp
        omega
      exact create1_any hs1 hL.begun (by omega) name hn _ _ ((ht1.cell (by omega) (hne _ (by omega))).trans hk.2) ((ht1.cell (by omega) (hne _ (Nat.le_refl _))).trans hk.1)
  have Hc := Lib.hid hcall
  have HB := Lib.hid hbW
  clear hcall hk hsW hwz hbW
  rw [hW] at Hc HB
  clear hW
  go_enter Tryz.func9, Tryz.ntmps9
  go_wp2_with (go_at_call 28; refine Hc.out.mono ?_; rintro e w' ⟨rfl, hn'⟩)
  go_ret
  exact ⟨rfl, hn'.after (turn_of_below HB.out) (fun _ hk => .inl hk) rfl⟩
end Go.Proofs.YtfndlfnlepndmaaGreat

namespace Go.Proofs.YtfndlfnlepndmaaGreat
open Go.RowKit

theorem WF.now_nms {s : St} (h : WF s) : ∀ p ∈ s.now, isNm p.1 = true := h.nnms
theorem nm_size {s : ByteArray} (h : isNm s.data.toList = true) : s.size ≤ 20 := by
  have hl : s.data.toList.length = s.size := rfl
  simp [isNm, hl] at h
  exact h.2
theorem nm_ne {n : Nm} (h : isNm n = true) : n ≠ [] := by
  rintro rfl
  simp [isNm] at h
set_option maxHeartbeats 1000000 in
set_option maxRecDepth 100000 in
theorem remove1_any {w : World} {r : Rep} {s : St} {n m : Nat} (h : Sys w r s) (hL : Lim n m s) (hN : n ≤ 1000000) (name : ByteArray) (hn : name.size ≤ maxLen) (bf bn : Nat) (kf : w.cell? ⟨bf, 0, none⟩ = some (.pointer (some ⟨r.p, 0, none⟩))) (kn : w.cell? ⟨bn, 0, none⟩ = some (.string name)) :
    Calls Tryz.prog 34 #[.pointer (some ⟨bf, 0, none⟩), .pointer (some ⟨bn, 0, none⟩)] w fun e w' => e = .returned (.int .i64 (actRemove name.data.toList s).2) ∧ Next w r (actRemove name.data.toList s).1 w' := by
  have c6 := h.c6
  have hlook := dirLook (h.now.kept (w' := w.drew) rfl) name hn
  rw [mapD_get] at hlook
  cases hg : dget s.now name.data.toList with
  | none =>
    have hfin := Lib.hid (show actRemove name.data.toList s = (s, 7) by unfold actRemove; rw [hg]; rfl)
    rw [hg, pAt_none] at hlook
    clear hg
    go_enter Tryz.func34, Tryz.ntmps34
    go_wp2
    go_region_held3 (fun w' => w'.cell? ⟨bn, 0, none⟩ = some (.string name) ∧ w'.cell? ⟨bf, 0, none⟩ = some (.pointer (some ⟨r.p, 0, none⟩)) ∧ w'.cell? ⟨r.p, 6, none⟩ = some (.map (some r.mn)) ∧ (Instr.lookup 67 (.map (some r.mn)) (.string name) false).run Tryz.prog w' = .ok (.pointer none) w') (go_keep) (fail)
    go_wp2
    go_ret
    rw [hfin.out]
    exact ⟨rfl, h.drew.next.drew0⟩
  | some i =>
    have hfin := Lib.hid (show actRemove name.data.toList s = (s.doing ⟨name.data.toList, [], none⟩, 0) by unfold actRemove; rw [hg]; rfl)
    rw [hg, pAt_map] at hlook
    have hnm := h.wf.now_nms _ (mem_of_dget hg)
    have hsz := nm_size hnm
    have hnow := hL.now h.wf
    have hpend := hL.dirs
    have hfit : (Chg.mk name.data.toList ([] : Nm) none).fits s := ⟨.inl rfl, fun i hi => by simp at hi, .inr hnm, .inl rfl⟩
    have hdo := do_any h.drew name ⟨#[]⟩ none hfit (by omega) (by simp [ByteArray.size]) (by omega) (by omega)
    rw [pAt_none] at hdo
    have Hdo := Lib.hid hdo
    clear hdo hfit hnm hg hnow hpend
    go_enter Tryz.func34, Tryz.ntmps34
    go_wp2
    go_region_held3 (fun w' => w'.cell? ⟨bn, 0, none⟩ = some (.string name) ∧ w'.cell? ⟨bf, 0, none⟩ = some (.pointer (some ⟨r.p, 0, none⟩)) ∧ w'.cell? ⟨r.p, 6, none⟩ = some (.map (some r.mn)) ∧ (Instr.lookup 67 (.map (some r.mn)) (.string name) false).run Tryz.prog w' = .ok (.pointer (some ⟨r.at i, 0, none⟩)) w') (go_keep) (fail)
    go_wp2_with (go_at_call 31; refine Hdo.out.mono ?_; rintro e w2 ⟨rfl, hn2⟩)
    go_ret
    rw [hfin.out]
    exact ⟨rfl, hn2.drew0⟩
set_option maxHeartbeats 1000000 in
set_option maxRecDepth 100000 in
theorem rename1_any {w : World} {r : Rep} {s : St} {n m : Nat} (h : Sys w r s) (hL : Lim n m s) (hN : n ≤ 1000000) (a : ByteArray) (ha : a.size ≤ maxLen) (b : ByteArray) (hb : b.size ≤ maxLen) (bf ba bb : Nat) (kf : w.cell? ⟨bf, 0, none⟩ = some (.pointer (some ⟨r.p, 0, none⟩))) (ka : w.cell? ⟨ba, 0, none⟩ = some (.string a)) (kb : w.cell? ⟨bb, 0, none⟩ = some (.string b)) :
    Calls Tryz.prog 115 #[.pointer (some ⟨bf, 0, none⟩), .pointer (some ⟨ba, 0, none⟩), .pointer (some ⟨bb, 0, none⟩)] w fun e w' => e = .returned (.int .i64 (actRename a.data.toList b.data.toList s).2) ∧ Next w r (actRename a.data.toList b.data.toList s).1 w' := by
  have c6 := h.c6
  have hI := Lib.hid (fun w' : World => isName_any b w' hb)
  have hlook := dirLook (h.now.kept (w' := w.drew) rfl) a ha
  rw [mapD_get] at hlook
  cases hg : dget s.now a.data.toList with
  | none =>
    have hfin := Lib.hid (show actRename a.data.toList b.data.toList s = (s, 7) by unfold actRename; rw [hg]; rfl)
    rw [hg, pAt_none] at hlook
    clear hg
    go_enter Tryz.func115, Tryz.ntmps115
    go_wp2
    go_region_held3 (fun w' => w'.cell? ⟨ba, 0, none⟩ = some (.string a) ∧ w'.cell? ⟨bf, 0, none⟩ = some (.pointer (some ⟨r.p, 0, none⟩)) ∧ w'.cell? ⟨r.p, 6, none⟩ = some (.map (some r.mn)) ∧ (Instr.lookup 67 (.map (some r.mn)) (.string a) false).run Tryz.prog w' = .ok (.pointer none) w') (go_keep) (fail)
    go_wp2
    go_ret
    rw [hfin.out]
    exact ⟨rfl, h.drew.next.drew0⟩
  | some i =>
    rw [hg, pAt_map] at hlook
    cases hnb : isNm b.data.toList
    · have hfin := Lib.hid (show actRename a.data.toList b.data.toList s = (s, 1) by unfold actRename; rw [hg, hnb]; rfl)
      rw [hnb] at hI
      clear hg hnb
      go_enter Tryz.func115, Tryz.ntmps115
      go_wp2
      go_region_held3 (fun w' => w'.cell? ⟨ba, 0, none⟩ = some (.string a) ∧ w'.cell? ⟨bf, 0, none⟩ = some (.pointer (some ⟨r.p, 0, none⟩)) ∧ w'.cell? ⟨r.p, 6, none⟩ = some (.map (some r.mn)) ∧ (Instr.lookup 67 (.map (some r.mn)) (.string a) false).run Tryz.prog w' = .ok (.pointer (some ⟨r.at i, 0, none⟩)) w') (go_keep) (fail)
      go_wp2_with (go_at_call 30; refine (hI.out _).mono ?_; rintro e w1 ⟨rfl, rfl⟩)
      go_ret
      rw [hfin.out]
      exact ⟨rfl, h.drew.next.drew0⟩
    · rw [hnb] at hI
      by_cases hab : a.data.toList = b.data.toList
      · have hfin := Lib.hid (show actRename a.data.toList b.data.toList s = (s, 0) by unfold actRename; rw [hg, hnb, if_pos hab]; rfl)
        have he : (a.toList == b.toList) = true := by rw [toList_data, toList_data, hab]; simp
        clear hg hnb hab
        go_enter Tryz.func115, Tryz.ntmps115
        go_wp2
        go_region_held3 (fun w' => w'.cell? ⟨ba, 0, none⟩ = some (.string a) ∧ w'.cell? ⟨bf, 0, none⟩ = some (.pointer (some ⟨r.p, 0, none⟩)) ∧ w'.cell? ⟨r.p, 6, none⟩ = some (.map (some r.mn)) ∧ (Instr.lookup 67 (.map (some r.mn)) (.string a) false).run Tryz.prog w' = .ok (.pointer (some ⟨r.at i, 0, none⟩)) w') (go_keep) (fail)
        go_wp2_with (go_at_call 30; refine (hI.out _).mono ?_; rintro e w1 ⟨rfl, rfl⟩)
        go_ret
        rw [hfin.out]
        exact ⟨rfl, h.drew.next.drew0⟩
      · have hfin := Lib.hid (show actRename a.data.toList b.data.toList s = (s.doing ⟨a.data.toList, b.data.toList, none⟩, 0) by unfold actRename; rw [hg, hnb, if_neg hab]; rfl)
        have he : (a.toList == b.toList) = false := by rw [toList_data, toList_data]; simpa using hab
        have hna := h.wf.now_nms _ (mem_of_dget hg)
        have hsa := nm_size hna
        have hsb := nm_size hnb
        have hnow := hL.now h.wf
        have hpend := hL.dirs
        have hfit : (Chg.mk a.data.toList b.data.toList none).fits s := ⟨.inr (by simp [Chg.file, nm_ne hna, hg]), fun i hi => by simp at hi, .inr hna, .inr hnb⟩
        have hdo := do_any h.drew a b none hfit (by omega) (by omega) (by omega) (by omega)
        rw [pAt_none] at hdo
        have Hdo := Lib.hid hdo
        clear hdo hfit hna hg hnow hpend hnb hab
        go_enter Tryz.func115, Tryz.ntmps115
        go_wp2
        go_region_held3 (fun w' => w'.cell? ⟨ba, 0, none⟩ = some (.string a) ∧ w'.cell? ⟨bf, 0, none⟩ = some (.pointer (some ⟨r.p, 0, none⟩)) ∧ w'.cell? ⟨r.p, 6, none⟩ = some (.map (some r.mn)) ∧ (Instr.lookup 67 (.map (some r.mn)) (.string a) false).run Tryz.prog w' = .ok (.pointer (some ⟨r.at i, 0, none⟩)) w') (go_keep) (fail)
        go_wp2_with (first | (go_at_call 30; refine (hI.out _).mono ?_; rintro e w1 ⟨rfl, rfl⟩) | (go_at_call 31; refine Hdo.out.mono ?_; rintro e w2 ⟨rfl, hn2⟩))
        go_ret
        rw [hfin.out]
        exact ⟨rfl, hn2.drew0⟩
theorem act_on_remove (n : Nm) (s : St) : (actRemove n s).1.on = s.on := by
  unfold actRemove
  split <;> rfl
theorem act_on_rename (a b : Nm) (s : St) : (actRename a b s).1.on = s.on := by
  unfold actRename
  split
  · split
    · split <;> rfl
    · rfl
  · rfl
set_option maxHeartbeats 1000000 in
set_option maxRecDepth 100000 in
theorem remove_any {w : World} {r : Rep} {s : St} {n m : Nat} (h : Sys w r s) (hL : Lim n m s) (hN : n ≤ 100000) (name : ByteArray) (h_name : name.size ≤ maxLen) :
    Calls Tryz.prog 11 #[.pointer (some ⟨r.p, 0, none⟩), .string name] w fun e w' => e = .returned (.int .i64 (s.remove name.data.toList).2) ∧ Next w r (s.remove name.data.toList).1 w' := by
  have h1 := hL.s1
  have hB : ∀ k ∈ r.foot, k < w.heap.size := h.lt
  obtain ⟨W, hW⟩ : ∃ W, W = (w.alloc (.cells #[.pointer (some ⟨r.p, 0, none⟩)] 25)).alloc (.cells #[.string name] 9) := ⟨_, rfl⟩
  have hbW : Below w.heap.size w W := by rw [hW]; exact ((Below.refl _ _).alloc (Nat.le_refl _) _).alloc (by first | (simp; done) | (simp; omega)) _
  have hsW : Sys W r s := h.below hbW
  have hwz : W.heap.size = w.heap.size + 2 := by rw [hW]; simp
  have hk0 : W.cell? ⟨w.heap.size, 0, none⟩ = some (.pointer (some ⟨r.p, 0, none⟩)) := by rw [hW]; exact ocell (by first | (simp; done) | (simp; omega)) (ncell (by first | (simp; done) | (simp; omega)) rfl)
  have hk1 : W.cell? ⟨w.heap.size + 1, 0, none⟩ = some (.string name) := by rw [hW]; exact ncell (by first | (simp; done) | (simp; omega)) rfl
  have hcall : Calls Tryz.prog 28 #[.pointer (some ⟨r.p, 0, none⟩), .func (.func 34) #[] #[.pointer (some ⟨w.heap.size, 0, none⟩), .pointer (some ⟨w.heap.size + 1, 0, none⟩)]] W fun e w' => e = .returned (.int .i64 (s.remove name.data.toList).2) ∧ Next W r (s.remove name.data.toList).1 w' := by
    cases hon : s.on
    · have hc : s.remove name.data.toList = (s, 14) := by unfold St.remove wr; rw [hon]; rfl
      rw [hc]
      refine (write_off _ _ r.p W (by rw [← hon]; exact hsW.c1)).mono ?_
      rintro e w' ⟨he, rfl⟩
      exact ⟨he, hsW.next⟩
    · refine write_on _ _ (fun _ => by kernel_rfl) (actRemove name.data.toList) hsW hon hL.s0 (by omega) hL.fuse (fun w1 hs1 ht1 hz1 => ?_) (act_on_remove _ _)
      have hne : ∀ k, w.heap.size ≤ k → k ∉ [r.p] := by
        intro k hk
        have := hB r.p (by simp [Rep.foot])
        simp
        omega
      exact remove1_any hs1 hL.begun (by omega) name h_name _ _ ((ht1.cell (by omega) (hne _ (by omega))).trans hk0) ((ht1.cell (by omega) (hne _ (by omega))).trans hk1)
  have Hc := Lib.hid hcall
  have HB := Lib.hid hbW
  clear hcall hk0 hk1 hsW hwz hbW
  rw [hW] at Hc HB
  clear hW
  go_enter Tryz.func11, Tryz.ntmps11
  go_wp2_with (go_at_call 28; refine Hc.out.mono ?_; rintro e w' ⟨rfl, hn'⟩)
  go_ret
  exact ⟨rfl, hn'.after (turn_of_below HB.out) (fun _ hk => .inl hk) rfl⟩
set_option maxHeartbeats 1000000 in
set_option maxRecDepth 100000 in
theorem rename_any {w : World} {r : Rep} {s : St} {n m : Nat} (h : Sys w r s) (hL : Lim n m s) (hN : n ≤ 100000) (a : ByteArray) (h_a : a.size ≤ maxLen) (b : ByteArray) (h_b : b.size ≤ maxLen) :
    Calls Tryz.prog 22 #[.pointer (some ⟨r.p, 0, none⟩), .string a, .string b] w fun e w' => e = .returned (.int .i64 (s.rename a.data.toList b.data.toList).2) ∧ Next w r (s.rename a.data.toList b.data.toList).1 w' := by
  have h1 := hL.s1
  have hB : ∀ k ∈ r.foot, k < w.heap.size := h.lt
  obtain ⟨W, hW⟩ : ∃ W, W = ((w.alloc (.cells #[.pointer (some ⟨r.p, 0, none⟩)] 25)).alloc (.cells #[.string a] 9)).alloc (.cells #[.string b] 9) := ⟨_, rfl⟩
  have hbW : Below w.heap.size w W := by rw [hW]; exact (((Below.refl _ _).alloc (Nat.le_refl _) _).alloc (by first | (simp; done) | (simp; omega)) _).alloc (by first | (simp; done) | (simp; omega)) _
  have hsW : Sys W r s := h.below hbW
  have hwz : W.heap.size = w.heap.size + 3 := by rw [hW]; simp
  have hk0 : W.cell? ⟨w.heap.size, 0, none⟩ = some (.pointer (some ⟨r.p, 0, none⟩)) := by rw [hW]; exact ocell (by first | (simp; done) | (simp; omega)) (ocell (by first | (simp; done) | (simp; omega)) (ncell (by first | (simp; done) | (simp; omega)) rfl))
  have hk1 : W.cell? ⟨w.heap.size + 1, 0, none⟩ = some (.string a) := by rw [hW]; exact ocell (by first | (simp; done) | (simp; omega)) (ncell (by first | (simp; done) | (simp; omega)) rfl)
  have hk2 : W.cell? ⟨w.heap.size + 2, 0, none⟩ = some (.string b) := by rw [hW]; exact ncell (by first | (simp; done) | (simp; omega)) rfl
  have hcall : Calls Tryz.prog 28 #[.pointer (some ⟨r.p, 0, none⟩), .func (.func 115) #[] #[.pointer (some ⟨w.heap.size, 0, none⟩), .pointer (some ⟨w.heap.size + 1, 0, none⟩), .pointer (some ⟨w.heap.size + 2, 0, none⟩)]] W fun e w' => e = .returned (.int .i64 (s.rename a.data.toList b.data.toList).2) ∧ Next W r (s.rename a.data.toList b.data.toList).1 w' := by
    cases hon : s.on
    · have hc : s.rename a.data.toList b.data.toList = (s, 14) := by unfold St.rename wr; rw [hon]; rfl
      rw [hc]
      refine (write_off _ _ r.p W (by rw [← hon]; exact hsW.c1)).mono ?_
      rintro e w' ⟨he, rfl⟩
      exact ⟨he, hsW.next⟩
    · refine write_on _ _ (fun _ => by kernel_rfl) (actRename a.data.toList b.data.toList) hsW hon hL.s0 (by omega) hL.fuse (fun w1 hs1 ht1 hz1 => ?_) (act_on_rename _ _ _)
      have hne : ∀ k, w.heap.size ≤ k → k ∉ [r.p] := by
        intro k hk
        have := hB r.p (by simp [Rep.foot])
        simp
        omega
      exact rename1_any hs1 hL.begun (by omega) a h_a b h_b _ _ _ ((ht1.cell (by omega) (hne _ (by omega))).trans hk0) ((ht1.cell (by omega) (hne _ (by omega))).trans hk1) ((ht1.cell (by omega) (hne _ (by omega))).trans hk2)
  have Hc := Lib.hid hcall
  have HB := Lib.hid hbW
  clear hcall hk0 hk1 hk2 hsW hwz hbW
  rw [hW] at Hc HB
  clear hW
  go_enter Tryz.func22, Tryz.ntmps22
  go_wp2_with (go_at_call 28; refine Hc.out.mono ?_; rintro e w' ⟨rfl, hn'⟩)
  go_ret
  exact ⟨rfl, hn'.after (turn_of_below HB.out) (fun _ hk => .inl hk) rfl⟩
end Go.Proofs.YtfndlfnlepndmaaGreat

namespace Go.Proofs.YtfndlfnlepndmaaGreat
open Go.RowKit

set_option maxHeartbeats 1000000 in
set_option maxRecDepth 100000 in
theorem mclone_any (b : Nat) (es : Array MapEntry) (clock : Nat) (w : World) (hb : w.heap[b]? = some (.map es clock)) :
    Calls Tryz.prog 117 #[.map (some b)] w fun e w' => e = .returned (.map (some w.heap.size)) ∧ w.alloc (.map es clock) = w' := by
  have hq := fun w => run_eql_map_nil_sl (P := Tryz.prog) w 67 _ _ (some b) dirT
  go_enter Tryz.func117, Tryz.ntmps117
  go_wp2
  rw [run_callFunc_extern Tryz.func158 (by kernel_rfl) (by kernel_rfl) (by kernel_rfl) (e := Extern.MapsClone.clone) (by kernel_rfl), run_maps_clone_sl w 67 hb]
  simp only [Result.andThen]
  rw [Oper.upon_value]
  go_wp2
  rw [run_typeAssert_map_sl _ 67 20 _ _ _ dirT]
  simp only [Result.andThen]
  rw [Oper.upon_value]
  go_wp2
  go_ret
  exact ⟨rfl, rfl⟩
theorem dclone_any (b : Nat) (l : Dir) (w : World) (h : DirAt w b l) :
    Calls Tryz.prog 117 #[.map (some b)] w fun e w' => e = .returned (.map (some w.heap.size)) ∧ DirAt w' w.heap.size l ∧ Below w.heap.size w w' ∧ w'.heap.size = w.heap.size + 1 := by
  obtain ⟨es, clock, hb, F, hs, hD⟩ := h
  refine (mclone_any b es clock w hb).mono ?_
  rintro e w' ⟨rfl, rfl⟩
  exact ⟨rfl, ⟨es, clock, heap_alloc_new w _, F, hs, hD⟩, (Below.refl _ _).alloc (Nat.le_refl _) _, by simp⟩
theorem WF.settle {s : St} (h : WF s) : WF s.settle :=
  ⟨h.nids, h.nnms, h.nids, fun _ hc => (by cases hc), h.nnms, fun _ hc => (by cases hc)⟩
def Rep.settled (r : Rep) (b : Nat) : Rep := { r with ml := b, pv := .slice none 0 0 }
theorem foot_settled (r : Rep) (b k : Nat) : k ∈ (r.settled b).foot ↔ k = r.p ∨ k = r.mn ∨ k = b ∨ k ∈ r.fs.flatMap fFoot := by
  simp [Rep.foot, Rep.rest, Rep.settled, ob]
theorem nodup_settled {r : Rep} (h : r.foot.Nodup) {b : Nat} (hb : b ∉ r.foot) : (r.settled b).foot.Nodup := by
  have h' : (r.p :: r.mn :: r.fs.flatMap fFoot).Nodup := by
    refine List.Nodup.sublist ?_ h
    simp only [Rep.foot, Rep.rest]
    simp
  have hn : b ∉ r.p :: r.mn :: r.fs.flatMap fFoot := by
    intro hm
    refine hb ?_
    rw [foot_iff]
    simp only [List.mem_cons] at hm
    rcases hm with hm | hm | hm
    · exact .inl hm
    · exact .inr (.inl hm)
    · exact .inr (.inr (.inr (.inr hm)))
  have : (r.settled b).foot.Perm (b :: r.p :: r.mn :: r.fs.flatMap fFoot) := by
    simp only [Rep.foot, Rep.rest, Rep.settled, ob, Option.toList_none, List.nil_append]
    exact (List.perm_middle (l₁ := [r.p, r.mn])).trans (by simp)
  exact this.nodup_iff.2 (List.nodup_cons.2 ⟨hn, h'⟩)
set_option maxHeartbeats 1000000 in
set_option maxRecDepth 100000 in
theorem settle_any {w : World} {r : Rep} {s : St} (h : Sys w r s) :
    Calls Tryz.prog 38 #[.pointer (some ⟨r.p, 0, none⟩)] w fun e w' => e = .returned (.tuple #[]) ∧ Next w r s.settle w' := by
  have c6 := h.c6
  have hcl := Lib.hid (dclone_any r.mn _ w h.now)
  have hpl := h.lt r.p (by simp [Rep.foot])
  have hmnl := h.lt r.mn (by simp [Rep.foot])
  have A := Lib.hid (apart_of h.apart)
  have c7 := h.c7
  have c8 := h.c8
  have f7 := h.warm 7
  have f8 := h.warm 8
  go_enter Tryz.func38, Tryz.ntmps38
  go_wp2_with (go_at_call 117; refine hcl.out.mono ?_; rintro e w1 ⟨rfl, hd1, hb1, hz1⟩; have k7 : w1.cell? ⟨r.p, 7, none⟩ = some (.map (some r.ml)) := (hb1.cell (p := ⟨r.p, 7, none⟩) hpl).trans c7; have k8 : w1.cell? ⟨r.p, 8, none⟩ = some r.pv := (hb1.cell (p := ⟨r.p, 8, none⟩) hpl).trans c8; have g7 : w1.frozen? ⟨r.p, 7, none⟩ = false := (hb1.frozen (p := ⟨r.p, 7, none⟩) hpl).trans f7; have g8 : w1.frozen? ⟨r.p, 8, none⟩ = false := (hb1.frozen (p := ⟨r.p, 8, none⟩) hpl).trans f8; have k78 : ∀ v, (w1.setCell ⟨r.p, 7, none⟩ v).cell? ⟨r.p, 8, none⟩ = some r.pv := fun v => cell_set k8 (by decide))
  go_end0
  have hs1 : Sys w1 r s := h.below hb1
  have hne : ∀ k, k ≠ r.p → ((w1.setCell ⟨r.p, 7, none⟩ (.map (some w.heap.size))).setCell ⟨r.p, 8, none⟩ (.slice none 0 0)).heap[k]? = w1.heap[k]? := fun k hk => (heap_setCell_other _ ⟨r.p, 8, none⟩ k _ hk).trans (heap_setCell_other _ ⟨r.p, 7, none⟩ k _ hk)
  refine ⟨rfl, r.settled w.heap.size, ⟨?_, ?_, ?_, ?_, h.len, ?_, ?_, h.wf.settle⟩, rfl, ?_, ?_⟩
  · have h1 := heap_setCell_same w1 r.p 7 _ _ (.map (some w.heap.size)) hs1.cells
    exact heap_setCell_same _ r.p 8 _ _ (.slice none 0 0) h1
  · exact hs1.now.kept (hne _ (fun e => A.out.pn e.symm))
  · exact hd1.kept (hne _ (by omega))
  · exact row_nil _ _ _
  · intro i x f hx hf
    exact (hs1.file i x f hx hf).kept fun k hk => hne k (A.out.fs k (List.mem_flatMap.2 ⟨x, List.mem_of_getElem? hx, hk⟩)).1
  · exact nodup_settled h.apart (fun hm => Nat.lt_irrefl _ (h.lt _ hm))
  · exact ((turn_of_below (F := r.foot) hb1).setCell (.inl (by simp [Rep.foot])) _).setCell (.inl (by simp [Rep.foot])) _
  · intro k hk
    rw [foot_settled] at hk
    rw [foot_iff]
    rcases hk with hk | hk | hk | hk
    · exact .inl (.inl hk)
    · exact .inl (.inr (.inl hk))
    · exact .inr (by omega)
    · exact .inl (.inr (.inr (.inr (.inr hk))))
theorem sync_off (fn : FuncId) (caps : Array Value) (b : Nat) (w : World) (h : w.cell? ⟨b, 1, none⟩ = some (.bool false)) :
    Calls Tryz.prog 113 #[.pointer (some ⟨b, 0, none⟩), .func (.func fn) #[] caps] w fun e w' => e = .returned (.int .i64 14) ∧ w = w' := by
  go_enter Tryz.func113, Tryz.ntmps113
  go_wp2_with (go_at_call 119; refine (begun_no _ _ h).mono ?_; rintro e w1 ⟨rfl, rfl⟩)
  go_ret
  exact ⟨rfl, rfl⟩
theorem sync_nil (fn : FuncId) (caps : Array Value) (w : World) :
    Calls Tryz.prog 113 #[.pointer none, .func (.func fn) #[] caps] w fun e w' => e = .returned (.int .i64 14) ∧ w = w' := by
  go_enter Tryz.func113, Tryz.ntmps113
  go_wp2_with (go_at_call 119; refine (begun_nil _).mono ?_; rintro e w1 ⟨rfl, rfl⟩)
  go_ret
  exact ⟨rfl, rfl⟩
theorem ends_any (w : World) (r : Rep) (s : St) (h : Sys w r s) (hb : s.bad ≤ 9223372036854775807) :
    Calls Tryz.prog 157 #[.pointer (some ⟨r.p, 5, none⟩)] w fun e w' => e = .returned (.bool (over s.bad)) ∧ Sys w' r s.bads ∧ Turn [r.p] w w' ∧ w'.heap.size = w.heap.size := by
  by_cases hneg : s.bad < 0
  · refine (ends_neg r.p 5 s.bad w h.c5 hneg).mono ?_
    rintro e w' ⟨rfl, rfl⟩
    refine ⟨rfl, ?_, Turn.refl _ _, rfl⟩
    have : s.bads = s := by simp [St.bads, tick, hneg]
    rw [this]
    exact h
  · refine (ends_pos r.p 5 s.bad w h.c5 (h.warm 5) (by omega) hb).mono ?_
    rintro e w' ⟨rfl, rfl⟩
    exact ⟨rfl, h.set (s' := s.bads) 5 _ (by simp [sysCells, St.bads, tick, hneg]) rfl rfl rfl rfl, (Turn.refl _ _).setCell (.inl (by simp)) _, by simp⟩
set_option maxHeartbeats 1000000 in
set_option maxRecDepth 100000 in
theorem sync_on (fn : FuncId) (caps : Array Value) (hfn : ∀ w : World, (callFunc fn caps).run Tryz.prog w = .ok (.enter fn caps) w) (act : St → St × Int) {w : World} {r : Rep} {s : St} (h : Sys w r s) (hon : s.on = true) (h1 : 0 ≤ s.steps) (h2 : s.steps ≤ 4611686018427387904) (hfu : s.fuse ≤ 9223372036854775807) (hba : s.bad ≤ 9223372036854775807)
    (hact : ∀ w1, Sys w1 r s.begun.bads → Turn [r.p] w w1 → w1.heap.size = w.heap.size → Calls Tryz.prog fn caps w1 fun e w' => e = .returned (.int .i64 (act s.begun.bads).2) ∧ Next w1 r (act s.begun.bads).1 w') :
    Calls Tryz.prog 113 #[.pointer (some ⟨r.p, 0, none⟩), .func (.func fn) #[] caps] w fun e w' => e = .returned (.int .i64 (sy s act).2) ∧ Next w r (sy s act).1 w' := by
  have hb := Lib.hid (begin_yes h hon h1 h2 hfu)
  have HE := Lib.hid (fun w1 (hs1 : Sys w1 r s.begun) => ends_any w1 r s.begun hs1 hba)
  have HA := Lib.hid hact
  clear hact
  have hsy : sy s act = if s.begun.on then (if over s.bad then (s.begun.bads, 16) else act s.begun.bads) else (s.begun.bads, 14) := by simp [sy, hon]
  rw [hsy]
  clear hsy
  have hbad : s.begun.bad = s.bad := rfl
  rw [hbad] at HE
  clear hbad
  generalize over s.bad = ov at HE ⊢
  cases hbo : s.begun.on
  · go_enter Tryz.func113, Tryz.ntmps113
    go_wp2_with (first | (go_at_call 119; refine hb.out.mono ?_; rintro e w1 ⟨rfl, hs1, ht1, hz1⟩) | (go_at_call 157; refine (HE.out _ hs1).mono ?_; rintro e w2 ⟨rfl, hs2, ht2, hz2⟩; have c1 : w2.cell? ⟨r.p, 1, none⟩ = some (.bool false) := by (rw [← hbo]; exact hs2.c1)))
    go_ret
    refine ⟨rfl, r, hs2, rfl, ?_, fun _ hk => .inl hk⟩
    exact ((ht1.trans ht2 (fun x hx => .inl hx)).mono (G := r.foot) (by simp [Rep.foot]))
  · cases ov
    · go_enter Tryz.func113, Tryz.ntmps113
      go_wp2_with (first | (go_at_call 119; refine hb.out.mono ?_; rintro e w1 ⟨rfl, hs1, ht1, hz1⟩) | (go_at_call 157; refine (HE.out _ hs1).mono ?_; rintro e w2 ⟨rfl, hs2, ht2, hz2⟩; have c1 : w2.cell? ⟨r.p, 1, none⟩ = some (.bool true) := by (rw [← hbo]; exact hs2.c1)))
      have ht3 : Turn [r.p] w w2 := ht1.trans ht2 (fun x hx => .inl hx)
      refine (HA.out _ hs2 ht3 (hz2.trans hz1)).mono ?_
      rintro e w3 ⟨rfl, hn3⟩
      go_wp2
      go_ret
      refine ⟨rfl, hn3.after (ht3.mono (G := r.foot) (by simp [Rep.foot])) (fun _ hk => .inl hk) rfl⟩
    · go_enter Tryz.func113, Tryz.ntmps113
      go_wp2_with (first | (go_at_call 119; refine hb.out.mono ?_; rintro e w1 ⟨rfl, hs1, ht1, hz1⟩) | (go_at_call 157; refine (HE.out _ hs1).mono ?_; rintro e w2 ⟨rfl, hs2, ht2, hz2⟩; have c1 : w2.cell? ⟨r.p, 1, none⟩ = some (.bool true) := by (rw [← hbo]; exact hs2.c1)))
      go_ret
      refine ⟨rfl, r, hs2, rfl, ?_, fun _ hk => .inl hk⟩
      exact ((ht1.trans ht2 (fun x hx => .inl hx)).mono (G := r.foot) (by simp [Rep.foot]))
theorem Lim.bads {n m : Nat} {s : St} (h : Lim n m s) : Lim n m s.bads := ⟨h.s0, h.s1, h.dirs, h.nowl, h.files, h.bytes, h.fuse, tick_le h.bad, h.room⟩
theorem syncDir1_any {w : World} {r : Rep} {s : St} {n m : Nat} (h : Sys w r s) (_ : Lim n m s) (_ : n ≤ 1000000) (bf : Nat) (kf : w.cell? ⟨bf, 0, none⟩ = some (.pointer (some ⟨r.p, 0, none⟩))) :
    Calls Tryz.prog 114 #[.pointer (some ⟨bf, 0, none⟩)] w fun e w' => e = .returned (.int .i64 ((fun s : St => (s.settle, (0 : Int))) s).2) ∧ Next w r ((fun s : St => (s.settle, (0 : Int))) s).1 w' := by
  have hs := Lib.hid (settle_any h)
  go_enter Tryz.func114, Tryz.ntmps114
  go_wp2_with (go_at_call 38; refine hs.out.mono ?_; rintro e w1 ⟨rfl, hn1⟩)
  go_ret
  exact ⟨rfl, hn1⟩
set_option maxHeartbeats 1000000 in
set_option maxRecDepth 100000 in
theorem syncDir_any {w : World} {r : Rep} {s : St} {n m : Nat} (h : Sys w r s) (hL : Lim n m s) (hN : n ≤ 100000) :
    Calls Tryz.prog 21 #[.pointer (some ⟨r.p, 0, none⟩)] w fun e w' => e = .returned (.int .i64 (s.syncDir).2) ∧ Next w r (s.syncDir).1 w' := by
  have h1 := hL.s1
  have hB : ∀ k ∈ r.foot, k < w.heap.size := h.lt
  obtain ⟨W, hW⟩ : ∃ W, W = w.alloc (.cells #[.pointer (some ⟨r.p, 0, none⟩)] 25) := ⟨_, rfl⟩
  have hbW : Below w.heap.size w W := by rw [hW]; exact (Below.refl _ _).alloc (Nat.le_refl _) _
  have hsW : Sys W r s := h.below hbW
  have hwz : W.heap.size = w.heap.size + 1 := by rw [hW]; simp
  have hk0 : W.cell? ⟨w.heap.size, 0, none⟩ = some (.pointer (some ⟨r.p, 0, none⟩)) := by rw [hW]; exact ncell (by first | (simp; done) | (simp; omega)) rfl
  have hcall : Calls Tryz.prog 113 #[.pointer (some ⟨r.p, 0, none⟩), .func (.func 114) #[] #[.pointer (some ⟨w.heap.size, 0, none⟩)]] W fun e w' => e = .returned (.int .i64 (s.syncDir).2) ∧ Next W r (s.syncDir).1 w' := by
    cases hon : s.on
    · have hc : s.syncDir = (s, 14) := by unfold St.syncDir sy; rw [hon]; rfl
      rw [hc]
      refine (sync_off _ _ r.p W (by rw [← hon]; exact hsW.c1)).mono ?_
      rintro e w' ⟨he, rfl⟩
      exact ⟨he, hsW.next⟩
    · refine sync_on _ _ (fun _ => by kernel_rfl) (fun s => (s.settle, 0)) hsW hon hL.s0 (by omega) hL.fuse hL.bad (fun w1 hs1 ht1 hz1 => ?_)
      have hne : ∀ k, w.heap.size ≤ k → k ∉ [r.p] := by
        intro k hk
        have := hB r.p (by simp [Rep.foot])
        simp
        omega
      exact syncDir1_any hs1 hL.begun.bads (by omega)  _ ((ht1.cell (by omega) (hne _ (by omega))).trans hk0)
  have Hc := Lib.hid hcall
  have HB := Lib.hid hbW
  clear hcall hk0 hsW hwz hbW
  rw [hW] at Hc HB
  clear hW
  go_enter Tryz.func21, Tryz.ntmps21
  go_wp2_with (go_at_call 113; refine Hc.out.mono ?_; rintro e w' ⟨rfl, hn'⟩)
  go_ret
  exact ⟨rfl, hn'.after (turn_of_below HB.out) (fun _ hk => .inl hk) rfl⟩
end Go.Proofs.YtfndlfnlepndmaaGreat

namespace Go.Proofs.YtfndlfnlepndmaaGreat
open Go.RowKit

theorem set_split {α : Type} : ∀ {l : List α} {i : Nat} {x : α}, l[i]? = some x → ∃ A C, l = A ++ x :: C ∧ A.length = i ∧ ∀ y, l.set i y = A ++ y :: C
  | [], _, _, h => by simp at h
  | a :: l, 0, x, h => by
    simp at h
    subst h
    exact ⟨[], l, rfl, rfl, fun _ => rfl⟩
  | a :: l, i + 1, x, h => by
    simp only [List.getElem?_cons_succ] at h
    obtain ⟨A, C, rfl, hl, hs⟩ := set_split h
    refine ⟨a :: A, C, rfl, by simp [hl], fun y => ?_⟩
    simp only [List.set_cons_succ, hs y, List.cons_append]
theorem nodup_swap {x1 B : Nat} {o o' : Option Nat} {R : List Nat} (h : (x1 :: (o.toList ++ R)).Nodup) (hB : ∀ k ∈ x1 :: (o.toList ++ R), k < B) (ho : o' = o ∨ o' = none ∨ ∃ g, o' = some g ∧ B ≤ g) : (x1 :: (o'.toList ++ R)).Nodup := by
  rcases ho with rfl | rfl | ⟨g, rfl, hg⟩
  · exact h
  · refine List.Nodup.sublist ?_ h
    simp
  · have h' : (x1 :: R).Nodup := by
      refine List.Nodup.sublist ?_ h
      simp
    have hn : g ∉ x1 :: R := by
      intro hm
      have := hB g (by
        simp only [List.mem_cons, List.mem_append] at hm ⊢
        rcases hm with hm | hm
        · exact .inl hm
        · exact .inr (.inr hm))
      omega
    have : (x1 :: ((some g).toList ++ R)).Perm (g :: x1 :: R) := by
      simp only [Option.toList_some, List.singleton_append]
      exact List.Perm.swap _ _ _
    exact this.nodup_iff.2 (List.nodup_cons.2 ⟨hn, h'⟩)
def Rep.refile (r : Rep) (i : Nat) (x : Nat × Value) : Rep := { r with fs := r.fs.set i x }
theorem refile_at {r : Rep} {i : Nat} {x x' : Nat × Value} (hx : r.fs[i]? = some x) (h1 : x'.1 = x.1) (j : Nat) : (r.refile i x').at j = r.at j := by
  unfold Rep.at Rep.refile
  rw [List.getD_eq_getElem?_getD, List.getD_eq_getElem?_getD, List.getElem?_set]
  split
  · rename_i e
    subst e
    rw [hx]
    split
    · simp [h1]
    · rename_i hl
      exact absurd (List.getElem?_eq_some_iff.1 hx).1 hl
  · rfl
/-- The foot, with one file ahead. -/
theorem foot_perm {r : Rep} {A C : List (Nat × Value)} {x : Nat × Value} (h : r.fs = A ++ x :: C) : r.foot.Perm (x.1 :: ((ob x.2).toList ++ (r.p :: r.mn :: r.ml :: ((ob r.pv).toList ++ (A.flatMap fFoot ++ C.flatMap fFoot))))) := by
  unfold Rep.foot Rep.rest
  rw [h, List.flatMap_append, List.flatMap_cons]
  have e : r.p :: r.mn :: r.ml :: ((ob r.pv).toList ++ (A.flatMap fFoot ++ (fFoot x ++ C.flatMap fFoot))) = ([r.p, r.mn, r.ml] ++ (ob r.pv).toList ++ A.flatMap fFoot) ++ (fFoot x ++ C.flatMap fFoot) := by simp
  rw [e]
  refine (List.perm_append_comm_assoc _ (fFoot x) _).trans ?_
  unfold fFoot
  simp
theorem Sys.refile {w w' : World} {r : Rep} {s : St} {i : Nat} {x x' : Nat × Value} {f f' : Fil} (h : Sys w r s) (hx : r.fs[i]? = some x) (_hf : s.files[i]? = some f) (ok : FileOk w' x' f') (h1 : x'.1 = x.1)
    (ho : ob x'.2 = ob x.2 ∨ ob x'.2 = none ∨ ∃ g, ob x'.2 = some g ∧ w.heap.size ≤ g) (hk : ∀ k, k < w.heap.size → k ∉ fFoot x → w'.heap[k]? = w.heap[k]?) : Sys w' (r.refile i x') { s with files := s.files.set i f' } := by
  obtain ⟨A, C, hA, hl, hs⟩ := set_split hx
  have hP := foot_perm hA
  have hN := hP.nodup_iff.1 h.apart
  have hat : (r.refile i x').at = r.at := funext (refile_at hx h1)
  have hd : ∀ k ∈ r.foot, k ∉ fFoot x → w'.heap[k]? = w.heap[k]? := fun k hm hn => hk k (h.lt k hm) hn
  have hout : ∀ k, k ∈ r.p :: r.mn :: r.ml :: ((ob r.pv).toList ++ (A.flatMap fFoot ++ C.flatMap fFoot)) → w'.heap[k]? = w.heap[k]? := by
    intro k hm
    refine hd k (hP.mem_iff.2 (List.mem_cons_of_mem _ (List.mem_append_right _ hm))) ?_
    intro hf
    have h2 := List.nodup_cons.1 hN
    simp only [fFoot, List.mem_cons, Option.mem_toList] at hf
    rcases hf with rfl | hf
    · exact h2.1 (List.mem_append_right _ hm)
    · exact (List.nodup_append.1 h2.2).2.2 k (by simp [hf]) k hm rfl
  refine ⟨?_, ?_, ?_, ?_, ?_, ?_, ?_, ?_⟩
  · exact (hout r.p (by simp)).trans h.cells
  · rw [hat]
    exact h.now.kept (hout r.mn (by simp))
  · rw [hat]
    exact h.last.kept (hout r.ml (by simp))
  · rw [hat]
    exact h.pend.kept fun k e => hout k (by simp [e])
  · simp [Rep.refile, h.len]
  · intro j y g hy hg
    simp only [Rep.refile] at hy
    rw [List.getElem?_set] at hy hg
    by_cases hij : i = j
    · subst hij
      have hi1 := (List.getElem?_eq_some_iff.1 hx).1
      rw [if_pos rfl, if_pos hi1] at hy
      rw [if_pos rfl, if_pos (by rw [← h.len]; exact hi1)] at hg
      cases hy
      cases hg
      exact ok
    · rw [if_neg hij] at hy hg
      refine (h.file j y g hy hg).kept fun k hm => hout k ?_
      have hjy : y ∈ A ∨ y ∈ C := by
        rw [hA] at hy
        by_cases hjl : j < A.length
        · rw [List.getElem?_append_left hjl] at hy
          exact .inl (List.mem_of_getElem? hy)
        · rw [List.getElem?_append_right (by omega)] at hy
          obtain ⟨m, hm'⟩ : ∃ m, j - A.length = m + 1 := ⟨j - A.length - 1, by omega⟩
          rw [hm', List.getElem?_cons_succ] at hy
          exact .inr (List.mem_of_getElem? hy)
      simp only [List.mem_cons, List.mem_append, List.mem_flatMap]
      rcases hjy with hy' | hy'
      · exact .inr (.inr (.inr (.inr (.inl ⟨y, hy', hm⟩))))
      · exact .inr (.inr (.inr (.inr (.inr ⟨y, hy', hm⟩))))
  · have hP' := foot_perm (r := r.refile i x') (A := A) (C := C) (x := x') (hs x')
    refine hP'.nodup_iff.2 ?_
    show (x'.1 :: ((ob x'.2).toList ++ (r.p :: r.mn :: r.ml :: ((ob r.pv).toList ++ (A.flatMap fFoot ++ C.flatMap fFoot))))).Nodup
    rw [h1]
    exact nodup_swap hN (fun k hm => h.lt k (hP.mem_iff.2 hm)) ho
  · obtain ⟨a, b, c, d, e, g⟩ := h.wf
    exact ⟨fun p hp => by simpa using a p hp, b, fun p hp => by simpa using c p hp, fun c' hc' j hj => by simpa using d c' hc' j hj, e, g⟩
theorem refile_foot {r : Rep} {i : Nat} {x x' : Nat × Value} {B : Nat} (hx : r.fs[i]? = some x) (h1 : x'.1 = x.1) (ho : ob x'.2 = ob x.2 ∨ ob x'.2 = none ∨ ∃ g, ob x'.2 = some g ∧ B ≤ g) : ∀ k ∈ (r.refile i x').foot, k ∈ r.foot ∨ B ≤ k := by
  obtain ⟨A, C, hA, hl, hs⟩ := set_split hx
  have hP := foot_perm hA
  have hP' := foot_perm (r := r.refile i x') (A := A) (C := C) (x := x') (hs x')
  intro k hk
  have hk' := hP'.mem_iff.1 hk
  rw [hP.mem_iff]
  simp only [List.mem_cons, List.mem_append, Option.mem_toList] at hk' ⊢
  rcases hk' with e | e | e
  · exact .inl (.inl (e.trans h1))
  · rcases ho with ho | ho | ⟨g, ho, hg⟩
    · exact .inl (.inr (.inl (ho ▸ e)))
    · rw [ho] at e
      cases e
    · rw [ho] at e
      cases e
      exact .inr hg
  · exact .inl (.inr (.inr e))
/-- A name that is there: its file, and where it lies. -/
theorem Sys.here {w : World} {r : Rep} {s : St} (h : Sys w r s) {n : Nm} {i : Nat} (hg : dget s.now n = some i) : ∃ x f, r.fs[i]? = some x ∧ s.files[i]? = some f ∧ FileOk w x f ∧ r.at i = x.1 ∧ s.files.getD i nofil = f := by
  have hi := h.wf.now_ids _ (mem_of_dget hg)
  have hi' : i < r.fs.length := by rw [h.len]; exact hi
  refine ⟨r.fs[i], s.files[i], List.getElem?_eq_getElem hi', List.getElem?_eq_getElem hi, h.file i _ _ (List.getElem?_eq_getElem hi') (List.getElem?_eq_getElem hi), ?_, ?_⟩
  · simp [Rep.at, hi']
  · rw [List.getD_eq_getElem?_getD, List.getElem?_eq_getElem hi]
    rfl
theorem FileOk.slice {w : World} {x : Nat × Value} {f : Fil} (h : FileOk w x f) : ∃ a cap, x.2 = .slice a f.b.length cap ∧ f.b.length ≤ cap ∧ cap ≤ maxLen := h.row.le
theorem FileOk.c0 {w : World} {x : Nat × Value} {f : Fil} (h : FileOk w x f) : w.cell? ⟨x.1, 0, none⟩ = some x.2 := by simp [World.cell?, h.cells]
theorem FileOk.c1 {w : World} {x : Nat × Value} {f : Fil} (h : FileOk w x f) : w.cell? ⟨x.1, 1, none⟩ = some (.int .i64 f.syn) := by simp [World.cell?, h.cells]
theorem FileOk.warm {w : World} {x : Nat × Value} {f : Fil} (h : FileOk w x f) (j : Nat) : w.frozen? ⟨x.1, j, none⟩ = false := by simp [World.frozen?, h.cells]
theorem Sys.fs_foot {w : World} {r : Rep} {s : St} (_h : Sys w r s) {i : Nat} {x : Nat × Value} (hx : r.fs[i]? = some x) : ∀ k ∈ fFoot x, k ∈ r.foot := fun k hk => by
  rw [foot_iff]
  exact .inr (.inr (.inr (.inr (List.mem_flatMap.2 ⟨x, List.mem_of_getElem? hx, hk⟩))))
theorem fFoot_ne {w : World} {x : Nat × Value} {f : Fil} {r : Rep} {s : St} {i : Nat} (h : Sys w r s) (hx : r.fs[i]? = some x) (_ : FileOk w x f) : ob x.2 ≠ some x.1 := by
  intro e
  obtain ⟨A, C, hA, -, -⟩ := set_split hx
  have hN := (foot_perm hA).nodup_iff.1 h.apart
  exact (List.nodup_cons.1 hN).1 (by simp [e])
set_option maxHeartbeats 1000000 in
set_option maxRecDepth 100000 in
theorem sync1_any {w : World} {r : Rep} {s : St} {n m : Nat} (h : Sys w r s) (_ : Lim n m s) (_ : n ≤ 1000000) (name : ByteArray) (hn : name.size ≤ maxLen) (bf bn : Nat) (kf : w.cell? ⟨bf, 0, none⟩ = some (.pointer (some ⟨r.p, 0, none⟩))) (kn : w.cell? ⟨bn, 0, none⟩ = some (.string name)) :
    Calls Tryz.prog 126 #[.pointer (some ⟨bf, 0, none⟩), .pointer (some ⟨bn, 0, none⟩)] w fun e w' => e = .returned (.int .i64 (actSync name.data.toList s).2) ∧ Next w r (actSync name.data.toList s).1 w' := by
  have c6 := h.c6
  have hlook := dirLook (h.now.kept (w' := w.drew) rfl) name hn
  rw [mapD_get] at hlook
  cases hg : dget s.now name.data.toList with
  | none =>
    have hfin := Lib.hid (show actSync name.data.toList s = (s, 7) by unfold actSync; rw [hg])
    rw [hg, pAt_none] at hlook
    clear hg
    go_enter Tryz.func126, Tryz.ntmps126
    go_wp2
    go_region_held3 (fun w' => w'.cell? ⟨bn, 0, none⟩ = some (.string name) ∧ w'.cell? ⟨bf, 0, none⟩ = some (.pointer (some ⟨r.p, 0, none⟩)) ∧ w'.cell? ⟨r.p, 6, none⟩ = some (.map (some r.mn)) ∧ (Instr.lookup 67 (.map (some r.mn)) (.string name) false).run Tryz.prog w' = .ok (.pointer none) w') (go_keep) (fail)
    go_wp2
    go_ret
    rw [hfin.out]
    exact ⟨rfl, h.drew.next.drew0⟩
  | some i =>
    obtain ⟨x, f, hx, hfi, hok, hat, hgd⟩ := h.here hg
    have hfin := Lib.hid (show actSync name.data.toList s = ({ s with files := s.files.set i ⟨f.b, f.b.length⟩ }, 0) by unfold actSync; rw [hg]; simp only [hgd])
    rw [hg, pAt_map, hat] at hlook
    obtain ⟨a0, cap0, hsl, -, -⟩ := hok.slice
    have k0 := hok.c0
    rw [hsl] at k0
    have k1 := hok.c1
    have f1 := hok.warm 1
    have hend := Lib.hid (show Next w.drew r { s with files := s.files.set i ⟨f.b, f.b.length⟩ } (w.drew.setCell ⟨x.1, 1, none⟩ (.int .i64 f.b.length)) by
      have hk : ∀ k, k ≠ x.1 → (w.drew.setCell ⟨x.1, 1, none⟩ (.int .i64 f.b.length)).heap[k]? = w.drew.heap[k]? := fun k hk => heap_setCell_other _ ⟨x.1, 1, none⟩ k _ hk
      have ok' : FileOk (w.drew.setCell ⟨x.1, 1, none⟩ (.int .i64 f.b.length)) x ⟨f.b, f.b.length⟩ :=
        ⟨heap_setCell_same w.drew x.1 1 _ _ _ hok.cells, hok.row.kept (fun k e => hk k (fun e' => fFoot_ne h hx hok (e' ▸ e))), Nat.le_refl _⟩
      refine ⟨r.refile i x, h.drew.refile hx hfi ok' rfl (.inl rfl) (fun k _ hn => hk k (fun e => hn (by simp [fFoot, e]))), rfl, ?_, refile_foot hx rfl (.inl rfl)⟩
      exact (Turn.refl _ _).setCell (.inl (h.fs_foot hx _ (by simp [fFoot]))) _)
    clear hg hfi hgd hat
    go_enter Tryz.func126, Tryz.ntmps126
    go_wp2
    go_region_held3 (fun w' => w'.cell? ⟨bn, 0, none⟩ = some (.string name) ∧ w'.cell? ⟨bf, 0, none⟩ = some (.pointer (some ⟨r.p, 0, none⟩)) ∧ w'.cell? ⟨r.p, 6, none⟩ = some (.map (some r.mn)) ∧ (Instr.lookup 67 (.map (some r.mn)) (.string name) false).run Tryz.prog w' = .ok (.pointer (some ⟨x.1, 0, none⟩)) w') (go_keep) (fail)
    go_wp2
    go_ret
    rw [hfin.out]
    exact ⟨rfl, Next.drew0 hend.out⟩
set_option maxHeartbeats 1000000 in
set_option maxRecDepth 100000 in
theorem sync_any {w : World} {r : Rep} {s : St} {n m : Nat} (h : Sys w r s) (hL : Lim n m s) (hN : n ≤ 100000) (name : ByteArray) (h_name : name.size ≤ maxLen) :
    Calls Tryz.prog 41 #[.pointer (some ⟨r.p, 0, none⟩), .string name] w fun e w' => e = .returned (.int .i64 (s.sync name.data.toList).2) ∧ Next w r (s.sync name.data.toList).1 w' := by
  have h1 := hL.s1
  have hB : ∀ k ∈ r.foot, k < w.heap.size := h.lt
  obtain ⟨W, hW⟩ : ∃ W, W = (w.alloc (.cells #[.pointer (some ⟨r.p, 0, none⟩)] 25)).alloc (.cells #[.string name] 9) := ⟨_, rfl⟩
  have hbW : Below w.heap.size w W := by rw [hW]; exact ((Below.refl _ _).alloc (Nat.le_refl _) _).alloc (by first | (simp; done) | (simp; omega)) _
  have hsW : Sys W r s := h.below hbW
  have hwz : W.heap.size = w.heap.size + 2 := by rw [hW]; simp
  have hk0 : W.cell? ⟨w.heap.size, 0, none⟩ = some (.pointer (some ⟨r.p, 0, none⟩)) := by rw [hW]; exact ocell (by first | (simp; done) | (simp; omega)) (ncell (by first | (simp; done) | (simp; omega)) rfl)
  have hk1 : W.cell? ⟨w.heap.size + 1, 0, none⟩ = some (.string name) := by rw [hW]; exact ncell (by first | (simp; done) | (simp; omega)) rfl
  have hcall : Calls Tryz.prog 113 #[.pointer (some ⟨r.p, 0, none⟩), .func (.func 126) #[] #[.pointer (some ⟨w.heap.size, 0, none⟩), .pointer (some ⟨w.heap.size + 1, 0, none⟩)]] W fun e w' => e = .returned (.int .i64 (s.sync name.data.toList).2) ∧ Next W r (s.sync name.data.toList).1 w' := by
    cases hon : s.on
    · have hc : s.sync name.data.toList = (s, 14) := by unfold St.sync sy; rw [hon]; rfl
      rw [hc]
      refine (sync_off _ _ r.p W (by rw [← hon]; exact hsW.c1)).mono ?_
      rintro e w' ⟨he, rfl⟩
      exact ⟨he, hsW.next⟩
    · refine sync_on _ _ (fun _ => by kernel_rfl) (actSync name.data.toList) hsW hon hL.s0 (by omega) hL.fuse hL.bad (fun w1 hs1 ht1 hz1 => ?_)
      have hne : ∀ k, w.heap.size ≤ k → k ∉ [r.p] := by
        intro k hk
        have := hB r.p (by simp [Rep.foot])
        simp
        omega
      exact sync1_any hs1 hL.begun.bads (by omega) name h_name _ _ ((ht1.cell (by omega) (hne _ (by omega))).trans hk0) ((ht1.cell (by omega) (hne _ (by omega))).trans hk1)
  have Hc := Lib.hid hcall
  have HB := Lib.hid hbW
  clear hcall hk0 hk1 hsW hwz hbW
  rw [hW] at Hc HB
  clear hW
  go_enter Tryz.func41, Tryz.ntmps41
  go_wp2_with (go_at_call 113; refine Hc.out.mono ?_; rintro e w' ⟨rfl, hn'⟩)
  go_ret
  exact ⟨rfl, hn'.after (turn_of_below HB.out) (fun _ hk => .inl hk) rfl⟩
end Go.Proofs.YtfndlfnlepndmaaGreat

namespace Go.Proofs.YtfndlfnlepndmaaGreat
open Go.RowKit

/-- The bytes of the files that are still to come. -/
def leftSum (files : List Fil) (left : Lit → Bool) (l : Dir) : Nat := ((l.filter fun p => left (.string p.1)).map fun p => (files.getD p.2 nofil).b.length).sum
theorem leftSum_all (files : List Fil) (left : Lit → Bool) (l : Dir) (h : ∀ p ∈ l, left (.string p.1) = true) : leftSum files left l = used files l := by
  unfold leftSum used
  rw [List.filter_eq_self.2 (by simpa using h)]
theorem leftSum_none (files : List Fil) (left : Lit → Bool) (l : Dir) (h : ∀ kl, left kl = false) : leftSum files left l = 0 := by
  unfold leftSum
  rw [List.filter_eq_nil_iff.2 (by simp [h])]
  rfl
theorem rise_ne {l : Dir} (h : Rise l) : l.Pairwise fun p q => p.1 ≠ q.1 :=
  h.imp fun {p q} hb e => by rw [e, WideAt.bytes_irrefl] at hb; cases hb
theorem leftSum_step (files : List Fil) (left : Lit → Bool) {n : Nm} {i : Nat} (hl : left (.string n) = true) : ∀ {l : Dir}, l.Pairwise (fun p q => p.1 ≠ q.1) → (n, i) ∈ l →
    leftSum files left l = (files.getD i nofil).b.length + leftSum files (fun z => left z && !z.sameKey (.string n)) l
  | [], _, h => by cases h
  | p :: l, hp, h => by
    have h2 := List.pairwise_cons.1 hp
    have hst : ∀ q : Nm × Nat, (fun z : Lit => left z && !z.sameKey (.string n)) (.string q.1) = (left (.string q.1) && !(q.1 == n)) := fun q => rfl
    by_cases he : p.1 = n
    · have hpi : p = (n, i) := by
        rcases List.mem_cons.1 h with h' | h'
        · exact h'.symm
        · exact absurd he (h2.1 _ h')
      subst hpi
      have hrest : leftSum files (fun z => left z && !z.sameKey (.string n)) l = leftSum files left l := by
        unfold leftSum
        congr 2
        refine List.filter_congr fun q hq => ?_
        rw [hst]
        have : (q.1 == n) = false := by simpa using fun e => h2.1 q hq e.symm
        rw [this]
        simp
      unfold leftSum at hrest ⊢
      rw [List.filter_cons_of_pos (by simpa using hl), List.filter_cons_of_neg (by simp [Lit.sameKey]), hrest]
      simp
    · have h' : (n, i) ∈ l := by
        rcases List.mem_cons.1 h with h' | h'
        · exact absurd (by rw [← h']) he
        · exact h'
      have ih := leftSum_step files left hl h2.2 h'
      have hb : (p.1 == n) = false := by simpa using he
      unfold leftSum at ih ⊢
      by_cases hlp : left (.string p.1) = true
      · rw [List.filter_cons_of_pos (by simpa using hlp), List.filter_cons_of_pos (by rw [hst, hlp, hb]; rfl)]
        simp only [List.map_cons, List.sum_cons]
        rw [ih, Nat.add_left_comm]
      · rw [List.filter_cons_of_neg (by simpa using hlp), List.filter_cons_of_neg (by rw [hst]; simp [hlp])]
        exact ih
theorem used_le {files : List Fil} {m : Nat} (h : ∀ f ∈ files, f.b.length ≤ m) : ∀ (l : Dir), used files l ≤ l.length * m
  | [] => by simp [used]
  | p :: l => by
    have ih := used_le h l
    have hp : (files.getD p.2 nofil).b.length ≤ m := by
      rw [List.getD_eq_getElem?_getD]
      cases hg : files[p.2]? with
      | none => exact Nat.zero_le _
      | some f => exact h f (List.mem_of_getElem? hg)
    unfold used at ih ⊢
    simp only [List.map_cons, List.sum_cons, List.length_cons]
    rw [Nat.succ_mul]
    omega
theorem used_nil (w : World) : Calls Tryz.prog 33 #[.pointer none] w fun e w' => e = .returned (.int .i64 0) ∧ w = w' := by
  go_enter Tryz.func33, Tryz.ntmps33
  go_wp2
  go_ret
  exact ⟨rfl, rfl⟩
theorem pinv {v : Value} {y : DataW Unit × List MemPlace} (h : pElem v = some y) : ∃ c : Option Nat, v = pAt c := by
  rcases pElem_inv h with ⟨rfl, -⟩ | ⟨b, rfl, -⟩
  · exact ⟨none, rfl⟩
  · exact ⟨some b, rfl⟩
set_option maxHeartbeats 2000000 in
set_option maxRecDepth 100000 in
theorem used_any {w : World} {r : Rep} {s : St} {n m : Nat} (h : Sys w r s) (hL : Lim n m s) (hN : n ≤ 1000000) (hM : m ≤ 1000000000) :
    Calls Tryz.prog 33 #[.pointer (some ⟨r.p, 0, none⟩)] w fun e w' => e = .returned (.int .i64 (used s.files s.now : Nat)) ∧ Below w.heap.size w w' := by
  have c6 := h.c6
  have hnow := hL.now h.wf
  have hu := used_le hL.bytes s.now
  have hu2 : used s.files s.now ≤ 1000000000000000 := by
    have : s.now.length * m ≤ 1000000 * 1000000000 := Nat.mul_le_mul (by omega) hM
    omega
  have hris : Rise s.now := by
    have := h.now.rise keyS
    unfold Rise mapD at this
    rw [List.pairwise_map] at this
    exact this
  have hown := Lib.hid h.now
  go_enter Tryz.func33, Tryz.ntmps33
  go_wp2_with (first
    | (at_range; refine wpList_range_own _ rfl _ 67 rfl 9 76 keyS dirT _ r.mn _ _ rfl hown.out ?_; intro w0 hrg0 hg0 hs0)
    | go_in)
  go_frame
  go_loopw [3, 5] (fun nv _ wr => ∃ (left : Lit → Bool) (cnt : Nat), wr.ranges Tryz.prog 9 pElem r.mn w.heap.size (mapD r.at s.now).length (.map (encD (mapD r.at s.now))) left cnt ∧ Below w.heap.size w wr ∧ ∃ g : Nat, nv = .int .i64 (g : Int) ∧ g + leftSum s.files left s.now = used s.files s.now)
    (fun _ _ wr => wr.rangeLeft r.mn w.heap.size)
  case atStart =>
    refine ⟨_, _, hrg0, ⟨hg0.os, hg0.tape, hg0.output, hg0.size, fun k hk => hg0.block k hk (by simp)⟩, 0, rfl, ?_⟩
    rw [leftSum_all]
    · omega
    · intro p hp
      rw [encD_has, mapD_get]
      have : (dget s.now p.1).isSome = true := by
        unfold dget
        rw [Option.isSome_map, List.isSome_find?]
        exact List.any_eq_true.2 ⟨p, hp, by simp⟩
      simpa using this
  case round =>
    obtain ⟨left, cnt, hrg, hbel, g, rfl, hsum⟩ := hrel
    go_wp2_with (first
      | (at_next; refine wpList_next_ranges _ rfl _ rfl 9 keyS pElem encStr pAt (fun key kl hk => by obtain ⟨x, hx, -⟩ := Maps.keyOf_str Tryz.underlying9 hk; exact ⟨x, hx⟩) (fun v y hv => pinv hv) r.mn w.heap.size _ _ _ _ rfl hrg ?_ ?_)
      | go_in)
    · intro _ hl0
      rw [leftSum_none _ _ _ hl0] at hsum
      go_wp2
      go_ret
      exact ⟨by rw [← hsum]; rfl, hbel⟩
    · intro y c kl yd yp w2 cnt2 hkey hlk hv hat hrg2 hlt hg2 hs2 hen
      obtain ⟨y', ey, rfl, -⟩ := Maps.keyOf_str Tryz.underlying9 hkey
      obtain rfl : y = y' := encStr_inj ey
      obtain ⟨i, hgi, hc⟩ : ∃ i, dget s.now y = some i ∧ c = some (r.at i) := by
        have e1 := hat .nil
        have e2 := hat (.lit (.bool true))
        rw [encD_at, mapD_get] at e1 e2
        cases hgi : dget s.now y with
        | none =>
          rw [hgi] at e1 e2
          simp at e1 e2
          rw [← e1] at e2
          cases e2
        | some i =>
          rw [hgi] at e1
          simp at e1
          subst e1
          refine ⟨i, rfl, ?_⟩
          cases c with
          | none => simp [pAt, pElem] at hv
          | some b =>
            simp only [pAt, pElem_some, Option.some.injEq, Prod.mk.injEq, DataW.lit.injEq, Lit.int.injEq, true_and] at hv
            have := hv.1
            congr 1
            omega
      subst hc
      obtain ⟨x, f, hx, hfi, hok, hxat, hgd⟩ := h.here hgi
      have hstep := leftSum_step s.files left hlk (rise_ne hris) (mem_of_dget hgi)
      rw [hgd] at hstep
      have hbel2 : Below w.heap.size w w2 := hbel.trans ⟨hg2.os, hg2.tape, hg2.output, hg2.size, fun k hk => hg2.block k (by have := hbel.size; omega) (by simp; omega)⟩
      obtain ⟨a0, cap0, hsl, -, -⟩ := hok.slice
      have hxl : x.1 < w.heap.size := h.lt _ (h.fs_foot hx _ (by simp [fFoot]))
      have k0 : w2.cell? ⟨x.1, 0, none⟩ = some (.slice a0 f.b.length cap0) := by
        rw [hbel2.cell (p := ⟨x.1, 0, none⟩) hxl, hok.c0, hsl]
      have hp : pAt (some (r.at i)) = .pointer (some ⟨x.1, 0, none⟩) := by rw [hxat]; rfl
      rw [hp] at hen ⊢
      have hen' := hen
      clear hs2 hp hat hv hgi hgd hkey ey
      go_wp2
      go_roundw
      case rel =>
        refine ⟨_, cnt2, hrg2, hbel2, g + f.b.length, ?_, ?_⟩
        · go_num
        · omega
      case measure =>
        rw [hrg2.left_eq, hrg.left_eq]
        exact hlt
end Go.Proofs.YtfndlfnlepndmaaGreat

namespace Go.Proofs.YtfndlfnlepndmaaGreat
open Go.RowKit

theorem infoByteF : (Tryz.prog.info? 5).map (fun i => (i.zero, i.size, i.bytes)) = some (some (.int .u8 0), 1, 1) := by kernel_rfl
theorem wrap_same (z : Int) (h1 : -9223372036854775808 ≤ z) (h2 : z ≤ 9223372036854775807) : IntKind.i64.wrap z = z := by
  rw [IntKind.wrap_i64]
  omega
/-- What Append does to a file. -/
theorem append_end {w W w5 : World} {r : Rep} {s : St} {i : Nat} {x : Nat × Value} {f : Fil} {v : Value} (data : List UInt8) (h : Sys w r s) (hx : r.fs[i]? = some x) (hfi : s.files[i]? = some f) (hok : FileOk w x f) (hW : Turn [] w W) (hgrow : W.grownBy w5 (ob x.2))
    (hrow : Row w5 5 1 v (f.b.length + data.length) (byteVals f.b ++ byteVals data)) (hob : ob v = ob x.2 ∨ (ob v = some W.heap.size ∧ W.grownBy w5 none)) :
    Next w r { s with files := s.files.set i ⟨f.b ++ data, f.syn⟩ } (w5.setCell ⟨x.1, 0, none⟩ v) := by
  have hne := fFoot_ne h hx hok
  have hxl : x.1 < w.heap.size := h.lt _ (h.fs_foot hx _ (by simp [fFoot]))
  have hsz := hW.size
  have t5 : Turn (ob x.2).toList w w5 := (hW.mono (G := (ob x.2).toList) (by simp)).trans (turn_of_grown (F := (ob x.2).toList) hgrow (fun k hk => .inl (by simp [hk]))) (fun k hk => .inl hk)
  have t6 : Turn (fFoot x) w (w5.setCell ⟨x.1, 0, none⟩ v) := (t5.mono (G := fFoot x) (fun k hk => .inl (by simp [fFoot] at hk ⊢; exact .inr hk))).setCell (.inl (by simp [fFoot])) v
  have hc5 : w5.heap[x.1]? = some (.cells #[x.2, .int .i64 f.syn] 87) := by
    rw [t5.block x.1 hxl (by simpa using hne)]
    exact hok.cells
  have hov : ∀ k, ob v = some k → k ≠ x.1 := by
    intro k hk e
    rcases hob with hob | ⟨hob, -⟩
    · rw [hob, e] at hk
      exact hne hk
    · rw [hob] at hk
      simp at hk
      omega
  have ho : ob v = ob x.2 ∨ ob v = none ∨ ∃ g, ob v = some g ∧ w.heap.size ≤ g := by
    rcases hob with hob | ⟨hob, -⟩
    · exact .inl hob
    · exact .inr (.inr ⟨_, hob, hsz⟩)
  have ok' : FileOk (w5.setCell ⟨x.1, 0, none⟩ v) (x.1, v) ⟨f.b ++ data, f.syn⟩ := by
    refine ⟨heap_setCell_same w5 x.1 0 _ _ v hc5, ?_, ?_⟩
    · have e : byteVals (f.b ++ data) = byteVals f.b ++ byteVals data := by simp [byteVals]
      show Row _ _ 1 v (f.b ++ data).length (byteVals (f.b ++ data))
      rw [e, List.length_append]
      exact hrow.kept fun k hk => heap_setCell_other w5 ⟨x.1, 0, none⟩ k v (hov k hk)
    · have := hok.syn
      simp
      omega
  refine ⟨r.refile i (x.1, v), h.refile hx hfi ok' rfl ho (fun k hk hn => t6.block k hk hn), rfl, t6.mono (fun k hk => .inl (h.fs_foot hx k hk)), refile_foot hx rfl ho⟩
set_option maxHeartbeats 4000000 in
set_option maxRecDepth 100000 in
theorem append1_any {w : World} {r : Rep} {s : St} {n m : Nat} (h : Sys w r s) (hL : Lim n m s) (hN : n ≤ 1000000) (name : ByteArray) (hn : name.size ≤ maxLen) (data : ByteArray) (_ : data.size ≤ maxLen) (hM : m ≤ 1000000000) (hD : data.size ≤ 1000000000) (bf bn bd : Nat) (kf : w.cell? ⟨bf, 0, none⟩ = some (.pointer (some ⟨r.p, 0, none⟩))) (kn : w.cell? ⟨bn, 0, none⟩ = some (.string name)) (kd : w.cell? ⟨bd, 0, none⟩ = some (.string data)) :
    Calls Tryz.prog 32 #[.pointer (some ⟨bf, 0, none⟩), .pointer (some ⟨bn, 0, none⟩), .pointer (some ⟨bd, 0, none⟩)] w fun e w' => e = .returned (.int .i64 (actAppend name.data.toList data.data.toList s).2) ∧ Next w r (actAppend name.data.toList data.data.toList s).1 w' := by
  have c6 := h.c6
  have hlook := dirLook (h.now.kept (w' := w.drew) rfl) name hn
  rw [mapD_get] at hlook
  cases hg : dget s.now name.data.toList with
  | none =>
    have hfin := Lib.hid (show actAppend name.data.toList data.data.toList s = (s, 7) by unfold actAppend; rw [hg])
    rw [hg, pAt_none] at hlook
    clear hg
    go_enter Tryz.func32, Tryz.ntmps32
    go_wp2
    go_region_held3 (fun w' => w'.cell? ⟨bn, 0, none⟩ = some (.string name) ∧ w'.cell? ⟨bf, 0, none⟩ = some (.pointer (some ⟨r.p, 0, none⟩)) ∧ w'.cell? ⟨r.p, 6, none⟩ = some (.map (some r.mn)) ∧ (Instr.lookup 67 (.map (some r.mn)) (.string name) false).run Tryz.prog w' = .ok (.pointer none) w') (go_keep) (fail)
    go_wp2
    go_ret
    rw [hfin.out]
    exact ⟨rfl, h.drew.next.drew0⟩
  | some i =>
    obtain ⟨x, f, hx, hfi, hok, hat, hgd⟩ := h.here hg
    rw [hg, pAt_map, hat] at hlook
    have c2 := h.c2
    have hroom := hL.room
    have hu := used_le hL.bytes s.now
    have hu2 : used s.files s.now ≤ 1000000000000000 := by
      have := hL.now h.wf
      have : s.now.length * m ≤ 1000000 * 1000000000 := Nat.mul_le_mul (by omega) hM
      omega
    have hA : actAppend name.data.toList data.data.toList s = if 0 < s.room ∧ s.room - used s.files s.now < data.size then (s, 10) else ({ s with files := s.files.set i ⟨f.b ++ data.data.toList, f.syn⟩ }, 0) := by
      unfold actAppend
      rw [hg]
      simp only [hgd]
      rfl
    have Hu := Lib.hid (fun W (hW : Sys W r s) => used_any hW hL hN hM)
    have hbf : bf < w.heap.size := World.block_lt_of_cell? w ⟨bf, 0, none⟩ kf
    have hbd : bd < w.heap.size := World.block_lt_of_cell? w ⟨bd, 0, none⟩ kd
    have hpl : r.p < w.heap.size := h.lt _ (by simp [Rep.foot])
    have hxl : x.1 < w.heap.size := h.lt _ (h.fs_foot hx _ (by simp [fFoot]))
    clear hu hg hgd hat
    by_cases hr : 0 < s.room
    · by_cases hfull : s.room - used s.files s.now < data.size
      · have hfin := Lib.hid (hA.trans (if_pos ⟨hr, hfull⟩))
        generalize used s.files s.now = u at hfull hu2 Hu
        clear hA
        have hd1 : decide (0 < s.room) = true := by simpa using hr
        have hw : IntKind.i64.wrap (s.room - (u : Int)) = s.room - (u : Int) := wrap_same _ (by omega) (by omega)
        have hd2 : decide (s.room - (u : Int) < (data.size : Int)) = true := by simpa using hfull
        go_enter Tryz.func32, Tryz.ntmps32
        go_wp2
        go_region_held3 (fun w' => w'.cell? ⟨bn, 0, none⟩ = some (.string name) ∧ w'.cell? ⟨bf, 0, none⟩ = some (.pointer (some ⟨r.p, 0, none⟩)) ∧ w'.cell? ⟨r.p, 6, none⟩ = some (.map (some r.mn)) ∧ (Instr.lookup 67 (.map (some r.mn)) (.string name) false).run Tryz.prog w' = .ok (.pointer (some ⟨x.1, 0, none⟩)) w') (go_keep) (fail)
        go_wp2
        go_region_held3 (fun w' => w'.cell? ⟨bf, 0, none⟩ = some (.pointer (some ⟨r.p, 0, none⟩)) ∧ w'.cell? ⟨r.p, 2, none⟩ = some (.int .i64 s.room) ∧ w'.cell? ⟨bd, 0, none⟩ = some (.string data)) (first | go_keep | exact ⟨k3f, k32, k3d⟩) (first | (go_at_call 33; refine (Hu.out _ (by exact h.kept fun _ _ => rfl)).mono ?_; rintro e w3 ⟨rfl, hb3⟩; have k3f : w3.cell? ⟨bf, 0, none⟩ = some (.pointer (some ⟨r.p, 0, none⟩)) := (hb3.cell (p := ⟨bf, 0, none⟩) hbf).trans kf; have k32 : w3.cell? ⟨r.p, 2, none⟩ = some (.int .i64 s.room) := (hb3.cell (p := ⟨r.p, 2, none⟩) hpl).trans c2; have k3d : w3.cell? ⟨bd, 0, none⟩ = some (.string data) := (hb3.cell (p := ⟨bd, 0, none⟩) hbd).trans kd))
        go_wp2
        go_ret
        rw [hfin.out]
        have hbw : Below w.heap.size w w3 := ⟨hb3.os, hb3.tape, hb3.output, hb3.size, hb3.block⟩
        exact ⟨rfl, (h.below hbw).next.after (turn_of_below hbw) (fun _ hk => .inl hk) rfl⟩
      · have hfin := Lib.hid (hA.trans (if_neg (fun e => hfull e.2)))
        generalize used s.files s.now = u at hfull hu2 Hu
        clear hA
        have hd1 : decide (0 < s.room) = true := by simpa using hr
        have hw : IntKind.i64.wrap (s.room - (u : Int)) = s.room - (u : Int) := wrap_same _ (by omega) (by omega)
        have hd2 : decide (s.room - (u : Int) < (data.size : Int)) = false := by simpa using hfull
        clear hfull
        go_enter Tryz.func32, Tryz.ntmps32
        go_wp2
        go_region_held3 (fun w' => w'.cell? ⟨bn, 0, none⟩ = some (.string name) ∧ w'.cell? ⟨bf, 0, none⟩ = some (.pointer (some ⟨r.p, 0, none⟩)) ∧ w'.cell? ⟨r.p, 6, none⟩ = some (.map (some r.mn)) ∧ (Instr.lookup 67 (.map (some r.mn)) (.string name) false).run Tryz.prog w' = .ok (.pointer (some ⟨x.1, 0, none⟩)) w') (go_keep) (fail)
        go_wp2
        go_region_held3 (fun w' => w'.cell? ⟨bf, 0, none⟩ = some (.pointer (some ⟨r.p, 0, none⟩)) ∧ w'.cell? ⟨r.p, 2, none⟩ = some (.int .i64 s.room) ∧ w'.cell? ⟨bd, 0, none⟩ = some (.string data)) (first | go_keep | exact ⟨k3f, k32, k3d⟩) (first | (go_at_call 33; refine (Hu.out _ (by exact h.kept fun _ _ => rfl)).mono ?_; rintro e w3 ⟨rfl, hb3⟩; have k3f : w3.cell? ⟨bf, 0, none⟩ = some (.pointer (some ⟨r.p, 0, none⟩)) := (hb3.cell (p := ⟨bf, 0, none⟩) hbf).trans kf; have k32 : w3.cell? ⟨r.p, 2, none⟩ = some (.int .i64 s.room) := (hb3.cell (p := ⟨r.p, 2, none⟩) hpl).trans c2; have k3d : w3.cell? ⟨bd, 0, none⟩ = some (.string data) := (hb3.cell (p := ⟨bd, 0, none⟩) hbd).trans kd))
        have hbw : Below w.heap.size w w3 := ⟨hb3.os, hb3.tape, hb3.output, hb3.size, hb3.block⟩
        have hx3 : x.1 < w3.heap.size := Nat.lt_of_lt_of_le hxl hb3.size
        have hok3 : FileOk w3 x f := hok.kept fun k hk => hb3.block k (h.lt k (h.fs_foot hx k hk))
        have k0 := hok3.c0
        have fr0 := hok3.warm 0
        have HR := Lib.hid (hok3.row.kept (w' := w3.drew) fun _ _ => rfl)
        have HSrc := Lib.hid (Src.ofString (P := Tryz.prog) w3.drew Tryz.underlying9 data)
        have hlen : f.b.length ≤ 1000000000 := Nat.le_trans (hL.bytes f (List.mem_of_getElem? hfi)) hM
        have HB1 := Lib.hid (show f.b.length + data.size ≤ maxLen by unfold maxLen; omega)
        have HB2 := Lib.hid (show (f.b.length + data.size) * 1 ≤ 140737488355328 by omega)
        have hxo : some x.1 ≠ ob x.2 := fun e => fFoot_ne h hx hok e.symm
        obtain ⟨i0, hi, hz0, hzs, hzb⟩ := info_parts infoByteF
        go_wp2
        go_region_law (refine step_append_row _ rfl (.tmp 34) (.tmp 35) 85 9 rfl 5 i0 _ 1 1 Tryz.underlying85 hi hz0 hzs hzb rfl x.2 _ _ (by simp [Act.eval]) HR.out _ (by simp [Act.eval]) data.size _ HSrc.out HB1.out HB2.out ?_; intro v' w5 hrow5 hgrow5 hob5; obtain ⟨a5, c5, rfl, -, -⟩ := hrow5.le; have k58 : w5.cell? ⟨x.1, 0, none⟩ = some x.2 := hgrow5.cell (a := ⟨x.1, 0, none⟩) (by simpa using k0) hxo; have f58 : w5.frozen? ⟨x.1, 0, none⟩ = false := (World.frozen?_of_block (hgrow5.block x.1 (by simpa using hx3) hxo)).trans (by simpa using fr0))
        all_goals go_wp2
        all_goals go_ret
        all_goals
          rw [hfin.out]
          exact ⟨rfl, append_end data.data.toList h hx hfi hok ((turn_of_below hbw).drew) hgrow5 hrow5 hob5⟩
    · have hfin := Lib.hid (hA.trans (if_neg (fun e => hr e.1)))
      clear hA
      have hd1 : decide (0 < s.room) = false := by simpa using hr
      have hx3 := hxl
      go_enter Tryz.func32, Tryz.ntmps32
      go_wp2
      go_region_held3 (fun w' => w'.cell? ⟨bn, 0, none⟩ = some (.string name) ∧ w'.cell? ⟨bf, 0, none⟩ = some (.pointer (some ⟨r.p, 0, none⟩)) ∧ w'.cell? ⟨r.p, 6, none⟩ = some (.map (some r.mn)) ∧ (Instr.lookup 67 (.map (some r.mn)) (.string name) false).run Tryz.prog w' = .ok (.pointer (some ⟨x.1, 0, none⟩)) w') (go_keep) (fail)
      go_wp2
      go_quiet (fail)
      have k0 := hok.c0
      have fr0 := hok.warm 0
      have HR := Lib.hid (fun N => hok.row.kept (w' := w.drewN N) fun _ _ => rfl)
      have HSrc := Lib.hid (fun N => Src.ofString (P := Tryz.prog) (w.drewN N) Tryz.underlying9 data)
      have hlen : f.b.length ≤ 1000000000 := Nat.le_trans (hL.bytes f (List.mem_of_getElem? hfi)) hM
      have HB1 := Lib.hid (show f.b.length + data.size ≤ maxLen by unfold maxLen; omega)
      have HB2 := Lib.hid (show (f.b.length + data.size) * 1 ≤ 140737488355328 by omega)
      have hxo : some x.1 ≠ ob x.2 := fun e => fFoot_ne h hx hok e.symm
      obtain ⟨i0, hi, hz0, hzs, hzb⟩ := info_parts infoByteF
      go_wp2
      go_region_law (refine step_append_row _ rfl (.tmp 34) (.tmp 35) 85 9 rfl 5 i0 _ 1 1 Tryz.underlying85 hi hz0 hzs hzb rfl x.2 _ _ (by simp [Act.eval]) (HR.out _) _ (by simp [Act.eval]) data.size _ (HSrc.out _) HB1.out HB2.out ?_; intro v' w5 hrow5 hgrow5 hob5; obtain ⟨a5, c5, rfl, -, -⟩ := hrow5.le; have k58 : w5.cell? ⟨x.1, 0, none⟩ = some x.2 := hgrow5.cell (a := ⟨x.1, 0, none⟩) (by simpa using k0) hxo; have f58 : w5.frozen? ⟨x.1, 0, none⟩ = false := (World.frozen?_of_block (hgrow5.block x.1 (by simpa using hx3) hxo)).trans (by simpa using fr0))
      all_goals go_wp2
      all_goals go_ret
      all_goals
        rw [hfin.out]
        exact ⟨rfl, append_end data.data.toList h hx hfi hok ((Turn.refl [] w).drewN _) hgrow5 hrow5 hob5⟩
end Go.Proofs.YtfndlfnlepndmaaGreat

namespace Go.Proofs.YtfndlfnlepndmaaGreat
open Go.RowKit

theorem act_on_append (n : Nm) (d : List UInt8) (s : St) : (actAppend n d s).1.on = s.on := by
  unfold actAppend
  split
  · rfl
  · split <;> rfl
set_option maxHeartbeats 1000000 in
set_option maxRecDepth 100000 in
theorem append_any {w : World} {r : Rep} {s : St} {n m : Nat} (h : Sys w r s) (hL : Lim n m s) (hN : n ≤ 100000) (name : ByteArray) (h_name : name.size ≤ maxLen) (data : ByteArray) (h_data : data.size ≤ maxLen) (hM : m ≤ 1000000000) (hD : data.size ≤ 1000000000) :
    Calls Tryz.prog 10 #[.pointer (some ⟨r.p, 0, none⟩), .string name, .string data] w fun e w' => e = .returned (.int .i64 (s.append name.data.toList data.data.toList).2) ∧ Next w r (s.append name.data.toList data.data.toList).1 w' := by
  have h1 := hL.s1
  have hB : ∀ k ∈ r.foot, k < w.heap.size := h.lt
  obtain ⟨W, hW⟩ : ∃ W, W = ((w.alloc (.cells #[.pointer (some ⟨r.p, 0, none⟩)] 25)).alloc (.cells #[.string name] 9)).alloc (.cells #[.string data] 9) := ⟨_, rfl⟩
  have hbW : Below w.heap.size w W := by rw [hW]; exact (((Below.refl _ _).alloc (Nat.le_refl _) _).alloc (by first | (simp; done) | (simp; omega)) _).alloc (by first | (simp; done) | (simp; omega)) _
  have hsW : Sys W r s := h.below hbW
  have hwz : W.heap.size = w.heap.size + 3 := by rw [hW]; simp
  have hk0 : W.cell? ⟨w.heap.size, 0, none⟩ = some (.pointer (some ⟨r.p, 0, none⟩)) := by rw [hW]; exact ocell (by first | (simp; done) | (simp; omega)) (ocell (by first | (simp; done) | (simp; omega)) (ncell (by first | (simp; done) | (simp; omega)) rfl))
  have hk1 : W.cell? ⟨w.heap.size + 1, 0, none⟩ = some (.string name) := by rw [hW]; exact ocell (by first | (simp; done) | (simp; omega)) (ncell (by first | (simp; done) | (simp; omega)) rfl)
  have hk2 : W.cell? ⟨w.heap.size + 2, 0, none⟩ = some (.string data) := by rw [hW]; exact ncell (by first | (simp; done) | (simp; omega)) rfl
  have hcall : Calls Tryz.prog 28 #[.pointer (some ⟨r.p, 0, none⟩), .func (.func 32) #[] #[.pointer (some ⟨w.heap.size, 0, none⟩), .pointer (some ⟨w.heap.size + 1, 0, none⟩), .pointer (some ⟨w.heap.size + 2, 0, none⟩)]] W fun e w' => e = .returned (.int .i64 (s.append name.data.toList data.data.toList).2) ∧ Next W r (s.append name.data.toList data.data.toList).1 w' := by
    cases hon : s.on
    · have hc : s.append name.data.toList data.data.toList = (s, 14) := by unfold St.append wr; rw [hon]; rfl
      rw [hc]
      refine (write_off _ _ r.p W (by rw [← hon]; exact hsW.c1)).mono ?_
      rintro e w' ⟨he, rfl⟩
      exact ⟨he, hsW.next⟩
    · refine write_on _ _ (fun _ => by kernel_rfl) (actAppend name.data.toList data.data.toList) hsW hon hL.s0 (by omega) hL.fuse (fun w1 hs1 ht1 hz1 => ?_) (act_on_append _ _ _)
      have hne : ∀ k, w.heap.size ≤ k → k ∉ [r.p] := by
        intro k hk
        have := hB r.p (by simp [Rep.foot])
        simp
        omega
      exact append1_any hs1 hL.begun (by omega) name h_name data h_data hM hD _ _ _ ((ht1.cell (by omega) (hne _ (by omega))).trans hk0) ((ht1.cell (by omega) (hne _ (by omega))).trans hk1) ((ht1.cell (by omega) (hne _ (by omega))).trans hk2)
  have Hc := Lib.hid hcall
  have HB := Lib.hid hbW
  clear hcall hk0 hk1 hk2 hsW hwz hbW
  rw [hW] at Hc HB
  clear hW
  go_enter Tryz.func10, Tryz.ntmps10
  go_wp2_with (go_at_call 28; refine Hc.out.mono ?_; rintro e w' ⟨rfl, hn'⟩)
  go_ret
  exact ⟨rfl, hn'.after (turn_of_below HB.out) (fun _ hk => .inl hk) rfl⟩
/-- The bytes of a row as a text. -/
theorem row_text {w : World} {v : Value} {l : List UInt8} (h : Row w 5 1 v l.length (byteVals l)) : (convert 85 9 v).run Tryz.prog w = .ok (.string ⟨l.toArray⟩) w := by
  have hc := h.cell
  obtain ⟨a, cap, rfl, -, -⟩ := h.le
  rcases h.2 with ⟨h0, hv | ⟨b, o, hv⟩⟩ | ⟨g, c, cur, hv, -⟩
  · have hl : l = [] := List.eq_nil_of_length_eq_zero h0
    subst hl
    cases hv
    exact Lib.run_convert_nil_bytes w 85 9 5 0 Tryz.underlying85 Tryz.underlying5 Tryz.underlying9
  · have hl : l = [] := List.eq_nil_of_length_eq_zero h0
    subst hl
    cases hv
    refine run_convert_bytes_back (P := Tryz.prog) w 85 9 5 ⟨b, o, none⟩ 0 [] Tryz.underlying85 Tryz.underlying5 Tryz.underlying9 (fun j hj => ?_)
    exact absurd hj (by simp)
  · cases hv
    refine run_convert_bytes_back (P := Tryz.prog) w 85 9 5 ⟨g, 0, none⟩ (c + 1) l Tryz.underlying85 Tryz.underlying5 Tryz.underlying9 (fun j hj => ?_)
    have hadd : (⟨g, 0, none⟩ : Addr).add j = ⟨g, 0 + j, none⟩ := by unfold Addr.add; split <;> simp_all
    rw [hadd]
    exact hc g 0 (c + 1) rfl j _ (by simp [byteVals, hj])
def readV (x : List UInt8 × Int) : Value := .tuple #[.string ⟨x.1.toArray⟩, .int .i64 x.2]
theorem read_nil (name : ByteArray) (w : World) : Calls Tryz.prog 16 #[.pointer none, .string name] w fun e w' => e = .returned (readV ([], 14)) ∧ w = w' := by
  go_enter Tryz.func16, Tryz.ntmps16
  go_wp2_with (go_at_call 52; refine (on_nil _).mono ?_; rintro e w1 ⟨rfl, rfl⟩)
  go_ret2
  exact ⟨rfl, rfl⟩
theorem read_off (b : Nat) (name : ByteArray) (w : World) (h : w.cell? ⟨b, 1, none⟩ = some (.bool false)) : Calls Tryz.prog 16 #[.pointer (some ⟨b, 0, none⟩), .string name] w fun e w' => e = .returned (readV ([], 14)) ∧ w = w' := by
  go_enter Tryz.func16, Tryz.ntmps16
  go_wp2_with (go_at_call 52; refine (on_at _ _ _ h).mono ?_; rintro e w1 ⟨rfl, rfl⟩)
  go_ret2
  exact ⟨rfl, rfl⟩
set_option maxHeartbeats 1000000 in
set_option maxRecDepth 100000 in
theorem read_any {w : World} {r : Rep} {s : St} (h : Sys w r s) (name : ByteArray) (hn : name.size ≤ maxLen) :
    Calls Tryz.prog 16 #[.pointer (some ⟨r.p, 0, none⟩), .string name] w fun e w' => e = .returned (readV (s.read name.data.toList)) ∧ w = w' := by
  have c1 := h.c1
  cases hon : s.on
  · have hc : s.read name.data.toList = ([], 14) := by unfold St.read; rw [hon]; rfl
    rw [hc]
    exact read_off r.p name w (by rw [← hon]; exact h.c1)
  · rw [hon] at c1
    have c6 := h.c6
    have hlook := dirLook h.now name hn
    rw [mapD_get] at hlook
    cases hg : dget s.now name.data.toList with
    | none =>
      have hfin := Lib.hid (show s.read name.data.toList = ([], 7) by unfold St.read; rw [hon, hg]; rfl)
      rw [hg, pAt_none] at hlook
      clear hg hon
      go_enter Tryz.func16, Tryz.ntmps16
      go_wp2_with (go_at_call 52; refine (on_at _ _ _ c1).mono ?_; rintro e w1 ⟨rfl, rfl⟩)
      go_ret2
      rw [hfin.out]
      exact ⟨rfl, rfl⟩
    | some i =>
      obtain ⟨x, f, hx, hfi, hok, hat, hgd⟩ := h.here hg
      have hfin := Lib.hid (show s.read name.data.toList = (f.b, 0) by unfold St.read; rw [hon, hg]; simp only [if_true, hgd])
      rw [hg, pAt_map, hat] at hlook
      have k0 := hok.c0
      have hcv := row_text hok.row
      clear hg hon hgd hat
      go_enter Tryz.func16, Tryz.ntmps16
      go_wp2_with (go_at_call 52; refine (on_at _ _ _ c1).mono ?_; rintro e w1 ⟨rfl, rfl⟩)
      go_ret2
      rw [hfin.out]
      exact ⟨rfl, rfl⟩
theorem restore_nil (w : World) : Calls Tryz.prog 23 #[.pointer none] w fun e w' => e = .returned (.tuple #[]) ∧ w = w' := by
  go_enter Tryz.func23, Tryz.ntmps23
  go_wp2
  go_end0
  exact ⟨rfl, rfl⟩
theorem restore_any {w : World} {r : Rep} {s : St} (h : Sys w r s) :
    Calls Tryz.prog 23 #[.pointer (some ⟨r.p, 0, none⟩)] w fun e w' => e = .returned (.tuple #[]) ∧ Next w r s.restore w' := by
  have c0 := h.c0
  have c1 := h.c1
  have f1 := h.warm 1
  go_enter Tryz.func23, Tryz.ntmps23
  go_wp2
  go_end0
  exact ⟨rfl, r, h.set (s' := s.restore) 1 (.bool s.made) rfl rfl rfl rfl rfl, rfl, (Turn.refl _ _).setCell (.inl (by simp [Rep.foot])) _, fun _ hk => .inl hk⟩
theorem fuse_nil (n : Int) (w : World) : Calls Tryz.prog 46 #[.pointer none, .int .i64 n] w fun e w' => e = .returned (.tuple #[]) ∧ w = w' := by
  go_enter Tryz.func46, Tryz.ntmps46
  go_wp2
  go_end0
  exact ⟨rfl, rfl⟩
theorem fuse_any {w : World} {r : Rep} {s : St} (h : Sys w r s) (n : Int) :
    Calls Tryz.prog 46 #[.pointer (some ⟨r.p, 0, none⟩), .int .i64 n] w fun e w' => e = .returned (.tuple #[]) ∧ Next w r { s with fuse := n } w' := by
  have c4 := h.c4
  have f4 := h.warm 4
  go_enter Tryz.func46, Tryz.ntmps46
  go_wp2
  go_end0
  exact ⟨rfl, r, h.set (s' := { s with fuse := n }) 4 (.int .i64 n) rfl rfl rfl rfl rfl, rfl, (Turn.refl _ _).setCell (.inl (by simp [Rep.foot])) _, fun _ hk => .inl hk⟩
theorem bad_nil (n : Int) (w : World) : Calls Tryz.prog 47 #[.pointer none, .int .i64 n] w fun e w' => e = .returned (.tuple #[]) ∧ w = w' := by
  go_enter Tryz.func47, Tryz.ntmps47
  go_wp2
  go_end0
  exact ⟨rfl, rfl⟩
theorem bad_any {w : World} {r : Rep} {s : St} (h : Sys w r s) (n : Int) :
    Calls Tryz.prog 47 #[.pointer (some ⟨r.p, 0, none⟩), .int .i64 n] w fun e w' => e = .returned (.tuple #[]) ∧ Next w r { s with bad := n } w' := by
  have c5 := h.c5
  have f5 := h.warm 5
  go_enter Tryz.func47, Tryz.ntmps47
  go_wp2
  go_end0
  exact ⟨rfl, r, h.set (s' := { s with bad := n }) 5 (.int .i64 n) rfl rfl rfl rfl rfl, rfl, (Turn.refl _ _).setCell (.inl (by simp [Rep.foot])) _, fun _ hk => .inl hk⟩
theorem steps_nil (w : World) : Calls Tryz.prog 24 #[.pointer none] w fun e w' => e = .returned (.int .i64 0) ∧ w = w' := by
  go_enter Tryz.func24, Tryz.ntmps24
  go_wp2
  go_ret
  exact ⟨rfl, rfl⟩
theorem steps_any {w : World} {r : Rep} {s : St} (h : Sys w r s) :
    Calls Tryz.prog 24 #[.pointer (some ⟨r.p, 0, none⟩)] w fun e w' => e = .returned (.int .i64 s.steps) ∧ w = w' := by
  have c3 := h.c3
  go_enter Tryz.func24, Tryz.ntmps24
  go_wp2
  go_ret
  exact ⟨rfl, rfl⟩
theorem new_any (room : Int) (w : World) :
    Calls Tryz.prog 6 #[.int .i64 room] w fun e w' => ∃ r, e = .returned (.pointer (some ⟨r.p, 0, none⟩)) ∧ Sys w' r (St.new room) ∧ Below w.heap.size w w' ∧ ∀ k ∈ r.foot, w.heap.size ≤ k := by
  have hmm := @run_makeMap Tryz.prog
  go_enter Tryz.func6, Tryz.ntmps6
  go_wp2
  go_ret
  have hm1 : DirAt (((w.alloc (.map #[] 0)).alloc (.map #[] 0)).alloc (.cells #[.bool true, .bool true, .int .i64 room, .int .i64 0, .int .i64 (-1), .int .i64 (-1), .map (some w.heap.size), .map (some (w.heap.size + 1)), .slice none 0 0] 70)) w.heap.size [] :=
    ((World.ownsMap_made w Tryz.prog 9 pElem).alloc _).alloc _
  have hm2 : DirAt (((w.alloc (.map #[] 0)).alloc (.map #[] 0)).alloc (.cells #[.bool true, .bool true, .int .i64 room, .int .i64 0, .int .i64 (-1), .int .i64 (-1), .map (some w.heap.size), .map (some (w.heap.size + 1)), .slice none 0 0] 70)) (w.heap.size + 1) [] := by
    have := (World.ownsMap_made (w.alloc (.map #[] 0)) Tryz.prog 9 pElem).alloc (.cells #[.bool true, .bool true, .int .i64 room, .int .i64 0, .int .i64 (-1), .int .i64 (-1), .map (some w.heap.size), .map (some (w.heap.size + 1)), .slice none 0 0] 70)
    have e : (w.alloc (.map #[] 0)).heap.size = w.heap.size + 1 := by simp
    rw [e] at this
    exact this
  refine ⟨⟨w.heap.size + 2, w.heap.size, w.heap.size + 1, .slice none 0 0, []⟩, rfl, ⟨?_, hm1, hm2, row_nil _ _ _, rfl, fun i x f hx => by simp at hx, ?_, ⟨fun p hp => (by cases hp), fun p hp => (by cases hp), fun p hp => (by cases hp), fun p hp => (by cases hp), fun p hp => (by cases hp), fun p hp => (by cases hp)⟩⟩, ?_, ?_⟩
  · have := heap_alloc_new ((w.alloc (.map #[] 0)).alloc (.map #[] 0)) (.cells #[.bool true, .bool true, .int .i64 room, .int .i64 0, .int .i64 (-1), .int .i64 (-1), .map (some w.heap.size), .map (some (w.heap.size + 1)), .slice none 0 0] 70)
    have e : ((w.alloc (.map #[] 0)).alloc (.map #[] 0)).heap.size = w.heap.size + 2 := by simp
    rw [e] at this
    exact this
  · simp [Rep.foot, Rep.rest, ob]
  · exact (((Below.refl _ _).alloc (Nat.le_refl _) _).alloc (by simp) _).alloc (by simp; omega) _
  · intro k hk
    simp [Rep.foot, Rep.rest, ob] at hk
    omega
end Go.Proofs.YtfndlfnlepndmaaGreat
