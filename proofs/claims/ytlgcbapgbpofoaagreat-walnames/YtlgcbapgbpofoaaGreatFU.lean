/- Contracts: Create. -/
import Derived.Test.YtlgcbapgbpofoaaGreatFQ
namespace Go.Proofs.YtlgcbapgbpofoaaGreat
open Go.RowKit

theorem isName_any (name : ByteArray) (w : World) (hn : name.size ≤ maxLen) :
    Calls Tryz.prog 174 #[.string name] w fun e w' => e = .returned (.bool (isNm name.data.toList)) ∧ w = w' := by
  have hl : name.data.toList.length = name.size := rfl
  have hI := Lib.hid (show isNm name.data.toList = (decide (1 ≤ name.size) && decide (name.size ≤ 20)) by unfold isNm; rw [hl])
  clear hl
  unfold maxLen at hn
  by_cases h1 : 1 ≤ name.size
  · by_cases h2 : name.size ≤ 20
    · go_enter Tryz.func174, Tryz.ntmps174
      go_wp2
      go_ret
      exact ⟨by rw [hI.out]; simp [h1, h2]; omega, rfl⟩
    · go_enter Tryz.func174, Tryz.ntmps174
      go_wp2
      go_ret
      exact ⟨by rw [hI.out]; simp [h1, h2]; omega, rfl⟩
  · go_enter Tryz.func174, Tryz.ntmps174
    go_wp2
    go_ret
    exact ⟨by rw [hI.out]; simp [h1], rfl⟩
def Rep.more (r : Rep) (b : Nat) : Rep := { r with fs := r.fs ++ [(b, .slice none 0 0)] }
theorem more_at (r : Rep) (b i : Nat) (hi : i < r.fs.length) : (r.more b).at i = r.at i := by
  unfold Rep.at Rep.more
  rw [List.getD_eq_getElem?_getD, List.getD_eq_getElem?_getD, List.getElem?_append_left hi]
theorem more_new (r : Rep) (b : Nat) : (r.more b).at r.fs.length = b := by
  unfold Rep.at Rep.more
  rw [List.getD_eq_getElem?_getD, List.getElem?_append_right (Nat.le_refl _)]
  simp
theorem more_foot (r : Rep) (b k : Nat) : k ∈ (r.more b).foot ↔ k ∈ r.foot ∨ k = b := by
  rw [foot_iff, foot_iff]
  simp only [Rep.more, List.flatMap_append, List.mem_append]
  have : k ∈ [(b, Value.slice none 0 0)].flatMap fFoot ↔ k = b := by simp [fFoot, ob]
  rw [this]
  constructor
  · rintro (h | h | h | h | h | h)
    · exact .inl (.inl h)
    · exact .inl (.inr (.inl h))
    · exact .inl (.inr (.inr (.inl h)))
    · exact .inl (.inr (.inr (.inr (.inl h))))
    · exact .inl (.inr (.inr (.inr (.inr h))))
    · exact .inr h
  · rintro ((h | h | h | h | h) | h)
    · exact .inl h
    · exact .inr (.inl h)
    · exact .inr (.inr (.inl h))
    · exact .inr (.inr (.inr (.inl h)))
    · exact .inr (.inr (.inr (.inr (.inl h))))
    · exact .inr (.inr (.inr (.inr (.inr h))))
theorem WF.now_ids {s : St} (h : WF s) : ∀ p ∈ s.now, p.2 < s.files.length := h.nids
theorem WF.more {s : St} (h : WF s) : WF s.more :=
  ⟨fun p hp => by have := h.nids p hp; simp [St.more]; omega, h.nnms, fun p hp => by have := h.ids p hp; simp [St.more]; omega, fun c hc i hi => by have := h.made c hc i hi; simp [St.more]; omega, h.nms, h.cnms⟩
theorem chgCells_congr {f g : Nat → Nat} {l : List Chg} (h : ∀ c ∈ l, ∀ i, c.made = some i → f i = g i) : l.flatMap (chgCells f) = l.flatMap (chgCells g) := by
  induction l with
  | nil => rfl
  | cons c l ih =>
    rw [List.flatMap_cons, List.flatMap_cons, ih (fun c' hc' => h c' (List.mem_cons_of_mem _ hc'))]
    congr 1
    unfold chgCells
    cases hm : c.made with
    | none => rfl
    | some i => simp only [Option.map_some, h c (by simp) i hm]
/-- A new file, that has no name yet. -/
theorem Sys.more {w : World} {r : Rep} {s : St} (h : Sys w r s) : Sys (w.alloc (.cells #[.slice none 0 0, .int .i64 0] 203)) (r.more w.heap.size) s.more := by
  have hk : ∀ k ∈ r.foot, (w.alloc (.cells #[.slice none 0 0, .int .i64 0] 203)).heap[k]? = w.heap[k]? := fun k hk => Below.heap_alloc w _ k (h.lt k hk)
  have hs := h.kept hk
  refine ⟨hs.cells, ?_, ?_, ?_, ?_, ?_, ?_, h.wf.more⟩
  · rw [mapD_congr (g := r.at) (fun p hp => more_at r _ _ (by rw [h.len]; exact h.wf.now_ids p hp))]
    exact hs.now
  · rw [mapD_congr (g := r.at) (fun p hp => more_at r _ _ (by rw [h.len]; exact h.wf.ids p hp))]
    exact hs.last
  · rw [show s.more.pend = s.pend from rfl, chgCells_congr (g := r.at) (fun c hc i hi => more_at r _ _ (by rw [h.len]; exact h.wf.made c hc i hi))]
    exact hs.pend
  · simp [Rep.more, St.more, h.len]
  · intro i x f hx hf
    simp only [Rep.more, St.more] at hx hf
    by_cases hi : i < r.fs.length
    · rw [List.getElem?_append_left hi] at hx
      rw [List.getElem?_append_left (by rw [← h.len]; exact hi)] at hf
      exact hs.file i x f hx hf
    · rw [List.getElem?_append_right (by omega)] at hx
      rw [List.getElem?_append_right (by rw [← h.len]; omega)] at hf
      rw [h.len] at hx
      have h0 : i - s.files.length = 0 := by
        have := (List.getElem?_eq_some_iff.1 hx).1
        simp at this
        omega
      rw [h0] at hx hf
      simp at hx hf
      subst hx
      subst hf
      exact ⟨heap_alloc_new w _, row_nil _ _ _, Nat.le_refl _⟩
  · have hn : w.heap.size ∉ r.foot := fun hm => Nat.lt_irrefl _ (h.lt _ hm)
    have : (r.more w.heap.size).foot = r.foot ++ [w.heap.size] := by
      simp [Rep.foot, Rep.rest, Rep.more, fFoot, ob]
    rw [this]
    exact List.nodup_append.2 ⟨h.apart, by simp, fun a ha b hb => by simp at hb; subst hb; exact fun e => hn (e ▸ ha)⟩

theorem pAt_map (f : Nat → Nat) (i : Nat) : pAt (Option.map f (some i)) = .pointer (some ⟨f i, 0, none⟩) := rfl
theorem pAt_none (f : Nat → Nat) : pAt (Option.map f none) = .pointer none := rfl
/-- How great a state is. -/
structure Lim (n m : Nat) (s : St) : Prop where
  s0 : 0 ≤ s.steps
  s1 : s.steps ≤ n
  dirs : s.last.length + s.pend.length ≤ n
  nowl : s.now.length ≤ n
  files : s.files.length ≤ n
  bytes : ∀ f ∈ s.files, f.b.length ≤ m
  fuse : s.fuse ≤ 9223372036854775807
  bad : s.bad ≤ 9223372036854775807
  room : s.room ≤ 9223372036854775807
theorem run_length (c : Chg) (d : Dir) : (c.run d).length ≤ d.length + 1 := by
  have h1 : (c.less d).length ≤ d.length := by
    unfold Chg.less
    split
    · exact Nat.le_refl _
    · exact length_ddel _ _
  unfold Chg.run
  split
  · omega
  · split
    · have := length_dput (c.less d) c.dst (by assumption)
      omega
    · omega
theorem redo_length : ∀ (l : List Chg) (d : Dir), (redo d l).length ≤ d.length + l.length
  | [], d => by simp [redo]
  | c :: l, d => by
    have h1 := redo_length l (c.run d)
    have h2 := run_length c d
    show (redo (c.run d) l).length ≤ _
    simp only [List.length_cons]
    omega
theorem Lim.now {n m : Nat} {s : St} (h : Lim n m s) (_ : WF s) : s.now.length ≤ n := h.nowl
theorem tick_le {c : Int} (h : c ≤ 9223372036854775807) : tick c ≤ 9223372036854775807 := by
  unfold tick
  split <;> omega
theorem Lim.begun {n m : Nat} {s : St} (h : Lim n m s) : Lim (n + 1) m s.begun :=
  ⟨by have := h.s0; simp [St.begun]; omega, by have := h.s1; simp [St.begun]; omega, by have := h.dirs; simp [St.begun]; omega, by have := h.nowl; simp [St.begun]; omega, by have := h.files; simp [St.begun]; omega, h.bytes, tick_le h.fuse, h.bad, h.room⟩
set_option maxHeartbeats 1000000 in
set_option maxRecDepth 100000 in
theorem create1_any {w : World} {r : Rep} {s : St} {n m : Nat} (h : Sys w r s) (hL : Lim n m s) (hN : n ≤ 1000000) (name : ByteArray) (hn : name.size ≤ maxLen) (bn bf : Nat) (kn : w.cell? ⟨bn, 0, none⟩ = some (.string name)) (kf : w.cell? ⟨bf, 0, none⟩ = some (.pointer (some ⟨r.p, 0, none⟩))) :
    Calls Tryz.prog 173 #[.pointer (some ⟨bn, 0, none⟩), .pointer (some ⟨bf, 0, none⟩)] w fun e w' => e = .returned (.int .i64 (actCreate name.data.toList s).2) ∧ Next w r (actCreate name.data.toList s).1 w' := by
  have hI := Lib.hid (fun w' : World => isName_any name w' hn)
  cases hnm : isNm name.data.toList
  · have hfin := Lib.hid (show actCreate name.data.toList s = (s, 1) by unfold actCreate; rw [hnm]; rfl)
    rw [hnm] at hI
    clear hnm
    go_enter Tryz.func173, Tryz.ntmps173
    go_wp2_with (go_at_call 174; refine (hI.out _).mono ?_; rintro e w1 ⟨rfl, rfl⟩)
    go_ret
    rw [hfin.out]
    exact ⟨rfl, h.next⟩
  · rw [hnm] at hI
    have c6 := h.c6
    have hlook := dirLook (h.now.kept (w' := w.drew) rfl) name hn
    rw [mapD_get] at hlook
    cases hg : dget s.now name.data.toList with
    | some i =>
      have hfin := Lib.hid (show actCreate name.data.toList s = (s, 8) by unfold actCreate; rw [hnm, hg]; rfl)
      rw [hg, pAt_map] at hlook
      clear hnm hg
      go_enter Tryz.func173, Tryz.ntmps173
      go_wp2_with (go_at_call 174; refine (hI.out _).mono ?_; rintro e w1 ⟨rfl, rfl⟩)
      go_region_held3 (fun w' => w'.cell? ⟨bn, 0, none⟩ = some (.string name) ∧ w'.cell? ⟨bf, 0, none⟩ = some (.pointer (some ⟨r.p, 0, none⟩)) ∧ w'.cell? ⟨r.p, 6, none⟩ = some (.map (some r.mn)) ∧ (Instr.lookup 164 (.map (some r.mn)) (.string name) false).run Tryz.prog w' = .ok (.pointer (some ⟨r.at i, 0, none⟩)) w') (go_keep) (fail)
      go_wp2
      go_ret
      rw [hfin.out]
      exact ⟨rfl, h.drew.next.drew0⟩
    | none =>
      have hfin := Lib.hid (show actCreate name.data.toList s = (s.more.doing ⟨[], name.data.toList, some s.files.length⟩, 0) by unfold actCreate; rw [hnm, hg]; rfl)
      rw [hg, pAt_none] at hlook
      have hsz : name.size ≤ 20 := by
        have hl : name.data.toList.length = name.size := rfl
        simp [isNm, hl] at hnm
        exact hnm.2
      have hnow := hL.now h.wf
      have hpend := hL.dirs
      have hfit : (Chg.mk ([] : Nm) name.data.toList (some s.files.length)).fits s.more :=
        ⟨.inr (by simp [Chg.file]), fun i hi => by simp at hi; subst hi; simp [St.more], .inl rfl, .inr hnm⟩
      have hdo := do_any h.more.drew ⟨#[]⟩ name (some s.files.length) hfit (by simp [ByteArray.size]) (by omega) (by show s.now.length ≤ _; omega) (by show s.pend.length ≤ _; omega)
      rw [pAt_map, ← h.len, more_new] at hdo
      have Hdo := Lib.hid hdo
      have Hmore := Lib.hid h.more
      clear hdo hfit hnm hg hnow hpend
      go_enter Tryz.func173, Tryz.ntmps173
      go_wp2_with (go_at_call 174; refine (hI.out _).mono ?_; rintro e w1 ⟨rfl, rfl⟩)
      go_region_held3 (fun w' => w'.cell? ⟨bn, 0, none⟩ = some (.string name) ∧ w'.cell? ⟨bf, 0, none⟩ = some (.pointer (some ⟨r.p, 0, none⟩)) ∧ w'.cell? ⟨r.p, 6, none⟩ = some (.map (some r.mn)) ∧ (Instr.lookup 164 (.map (some r.mn)) (.string name) false).run Tryz.prog w' = .ok (.pointer none) w') (go_keep) (fail)
      go_wp2_with (go_at_call 175; refine Hdo.out.mono ?_; rintro e w2 ⟨rfl, hn2⟩)
      go_ret
      rw [hfin.out, ← h.len]
      refine ⟨rfl, hn2.after (r := r) (((Turn.refl r.foot w).alloc _).drew) (fun k hk => ?_) rfl⟩
      rcases (more_foot r w.heap.size k).1 hk with hk | hk
      · exact .inl hk
      · exact .inr (by omega)
theorem act_on_create (n : Nm) (s : St) : (actCreate n s).1.on = s.on := by
  unfold actCreate
  split
  · split <;> rfl
  · rfl
theorem actCreate_lim {n m : Nat} {s : St} (h : Lim n m s) (nm : Nm) : Lim (n + 1) m (actCreate nm s).1 := by
  have h1 := h.s1
  have h2 := h.dirs
  have h3 := h.files
  have h4 := h.nowl
  have hw : Lim (n + 1) m s := ⟨h.s0, by omega, by omega, by omega, by omega, h.bytes, h.fuse, h.bad, h.room⟩
  unfold actCreate
  split
  · split
    · exact hw
    · refine ⟨h.s0, hw.s1, ?_, ?_, ?_, ?_, h.fuse, h.bad, h.room⟩
      · simp [St.doing, St.more]
        omega
      · have := run_length ⟨[], nm, some s.files.length⟩ s.now
        simp only [St.doing, St.more]
        omega
      · simp [St.doing, St.more]
        omega
      · intro f hf
        simp only [St.doing, St.more, List.mem_append, List.mem_singleton] at hf
        rcases hf with hf | rfl
        · exact h.bytes f hf
        · exact Nat.zero_le _
  · exact hw
theorem wr_lim {n m n' m' : Nat} {s : St} {act : St → St × Int} (h : Lim n' m' s) (hact : s.on = true → Lim n m (act s.begun).1) (hn : n' ≤ n) (hm : m' ≤ m) : Lim n m (wr s act).1 := by
  unfold wr
  split
  · exact hact (by assumption)
  · have h1 := h.s1
    have h2 := h.dirs
    have h3 := h.files
    have h4 := h.nowl
    show Lim n m s
    exact ⟨h.s0, by omega, by omega, by omega, by omega, fun f hf => Nat.le_trans (h.bytes f hf) hm, h.fuse, h.bad, h.room⟩
theorem box_two {w : World} {a b : Value} {s t : TypeId} : ((w.alloc (.cells #[a] s)).alloc (.cells #[b] t)).cell? ⟨w.heap.size, 0, none⟩ = some a ∧ ((w.alloc (.cells #[a] s)).alloc (.cells #[b] t)).cell? ⟨w.heap.size + 1, 0, none⟩ = some b := by
  constructor <;> simp
set_option maxHeartbeats 1000000 in
set_option maxRecDepth 100000 in
theorem create_any {w : World} {r : Rep} {s : St} {n m : Nat} (h : Sys w r s) (hL : Lim n m s) (hN : n ≤ 100000) (name : ByteArray) (hn : name.size ≤ maxLen) :
    Calls Tryz.prog 49 #[.pointer (some ⟨r.p, 0, none⟩), .string name] w fun e w' => e = .returned (.int .i64 (s.create name.data.toList).2) ∧ Next w r (s.create name.data.toList).1 w' := by
  have h1 := hL.s1
  have hB : ∀ k ∈ r.foot, k < w.heap.size := h.lt
  obtain ⟨W, hW⟩ : ∃ W, W = (w.alloc (.cells #[.pointer (some ⟨r.p, 0, none⟩)] 63)).alloc (.cells #[.string name] 9) := ⟨_, rfl⟩
  have hbW : Below w.heap.size w W := by rw [hW]; exact ((Below.refl _ _).alloc (Nat.le_refl _) _).alloc (by simp) _
  have hsW : Sys W r s := h.below hbW
  have hwz : W.heap.size = w.heap.size + 2 := by rw [hW]; simp
  have hk := box_two (w := w) (a := .pointer (some ⟨r.p, 0, none⟩)) (b := .string name) (s := 63) (t := 9)
  rw [← hW] at hk
  have hcall : Calls Tryz.prog 172 #[.pointer (some ⟨r.p, 0, none⟩), .func (.func 173) #[] #[.pointer (some ⟨w.heap.size + 1, 0, none⟩), .pointer (some ⟨w.heap.size, 0, none⟩)]] W fun e w' => e = .returned (.int .i64 (s.create name.data.toList).2) ∧ Next W r (s.create name.data.toList).1 w' := by
    cases hon : s.on
    · have hc : s.create name.data.toList = (s, 14) := by unfold St.create wr; rw [hon]; rfl
      rw [hc]
      refine (write_off _ _ r.p W (by rw [← hon]; exact hsW.c1)).mono ?_
      rintro e w' ⟨he, rfl⟩
      exact ⟨he, hsW.next⟩
    · refine write_on _ _ (fun _ => by kernel_rfl) (actCreate name.data.toList) hsW hon hL.s0 (by omega) hL.fuse (fun w1 hs1 ht1 hz1 => ?_) (act_on_create _ _)
      have hne : ∀ k, w.heap.size ≤ k → k ∉ [r.p] := by
        intro k hk
        have := hB r.p (by simp [Rep.foot])
        simp
        omega
      exact create1_any hs1 hL.begun (by omega) name hn _ _ ((ht1.cell (by omega) (hne _ (by omega))).trans hk.2) ((ht1.cell (by omega) (hne _ (Nat.le_refl _))).trans hk.1)
  have Hc := Lib.hid hcall
  have HB := Lib.hid hbW
  clear hcall hk hsW hwz hbW
  rw [hW] at Hc HB
  clear hW
  go_enter Tryz.func49, Tryz.ntmps49
  go_wp2_with (go_at_call 172; refine Hc.out.mono ?_; rintro e w' ⟨rfl, hn'⟩)
  go_ret
  exact ⟨rfl, hn'.after (turn_of_below HB.out) (fun _ hk => .inl hk) rfl⟩
end Go.Proofs.YtlgcbapgbpofoaaGreat
