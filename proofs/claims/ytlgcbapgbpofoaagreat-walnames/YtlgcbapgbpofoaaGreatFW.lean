/- Contracts: maps.Clone, settle, sync, Sync, SyncDir. -/
import Derived.Test.YtlgcbapgbpofoaaGreatFV
import Derived.Shelf.SlMaps.Clone
namespace Go.Proofs.YtlgcbapgbpofoaaGreat
open Go.RowKit

set_option maxHeartbeats 1000000 in
set_option maxRecDepth 100000 in
theorem mclone_any (b : Nat) (es : Array MapEntry) (clock : Nat) (w : World) (hb : w.heap[b]? = some (.map es clock)) :
    Calls Tryz.prog 227 #[.map (some b)] w fun e w' => e = .returned (.map (some w.heap.size)) ∧ w.alloc (.map es clock) = w' := by
  have hq := fun w => run_eql_map_nil_sl (P := Tryz.prog) w 164 _ _ (some b) dirT
  go_enter Tryz.func227, Tryz.ntmps227
  go_wp2
  rw [run_callFunc_extern Tryz.func245 (by kernel_rfl) (by kernel_rfl) (by kernel_rfl) (e := Extern.MapsClone.clone) (by kernel_rfl), run_maps_clone_sl w 164 hb]
  simp only [Result.andThen]
  rw [Oper.upon_value]
  go_wp2
  rw [run_typeAssert_map_sl _ 164 20 _ _ _ dirT]
  simp only [Result.andThen]
  rw [Oper.upon_value]
  go_wp2
  go_ret
  exact ⟨rfl, rfl⟩
theorem dclone_any (b : Nat) (l : Dir) (w : World) (h : DirAt w b l) :
    Calls Tryz.prog 227 #[.map (some b)] w fun e w' => e = .returned (.map (some w.heap.size)) ∧ DirAt w' w.heap.size l ∧ Below w.heap.size w w' ∧ w'.heap.size = w.heap.size + 1 := by
  obtain ⟨es, clock, hb, F, hs, hD⟩ := h
  refine (mclone_any b es clock w hb).mono ?_
  rintro e w' ⟨rfl, rfl⟩
  exact ⟨rfl, ⟨es, clock, heap_alloc_new w _, F, hs, hD⟩, (Below.refl _ _).alloc (Nat.le_refl _) _, by simp⟩
theorem WF.settle {s : St} (h : WF s) : WF s.settle :=
  ⟨h.nids, h.nnms, h.nids, fun _ hc => (by cases hc), h.nnms, fun _ hc => (by cases hc)⟩
def Rep.settled (r : Rep) (b : Nat) : Rep := { r with ml := b, pv := .slice none 0 0 }
theorem foot_settled (r : Rep) (b k : Nat) : k ∈ (r.settled b).foot ↔ k = r.p ∨ k = r.mn ∨ k = b ∨ k ∈ r.fs.flatMap fFoot := by
  simp [Rep.foot, Rep.rest, Rep.settled, ob]
theorem nodup_settled {r : Rep} (h : r.foot.Nodup) {b : Nat} (hb : b ∉ r.foot) : (r.settled b).foot.Nodup := by
  have h' : (r.p :: r.mn :: r.fs.flatMap fFoot).Nodup := by
    refine List.Nodup.sublist ?_ h
    simp only [Rep.foot, Rep.rest]
    simp
  have hn : b ∉ r.p :: r.mn :: r.fs.flatMap fFoot := by
    intro hm
    refine hb ?_
    rw [foot_iff]
    simp only [List.mem_cons] at hm
    rcases hm with hm | hm | hm
    · exact .inl hm
    · exact .inr (.inl hm)
    · exact .inr (.inr (.inr (.inr hm)))
  have : (r.settled b).foot.Perm (b :: r.p :: r.mn :: r.fs.flatMap fFoot) := by
    simp only [Rep.foot, Rep.rest, Rep.settled, ob, Option.toList_none, List.nil_append]
    exact (List.perm_middle (l₁ := [r.p, r.mn])).trans (by simp)
  exact this.nodup_iff.2 (List.nodup_cons.2 ⟨hn, h'⟩)
set_option maxHeartbeats 1000000 in
set_option maxRecDepth 100000 in
theorem settle_any {w : World} {r : Rep} {s : St} (h : Sys w r s) :
    Calls Tryz.prog 171 #[.pointer (some ⟨r.p, 0, none⟩)] w fun e w' => e = .returned (.tuple #[]) ∧ Next w r s.settle w' := by
  have c6 := h.c6
  have hcl := Lib.hid (dclone_any r.mn _ w h.now)
  have hpl := h.lt r.p (by simp [Rep.foot])
  have hmnl := h.lt r.mn (by simp [Rep.foot])
  have A := Lib.hid (apart_of h.apart)
  have c7 := h.c7
  have c8 := h.c8
  have f7 := h.warm 7
  have f8 := h.warm 8
  go_enter Tryz.func171, Tryz.ntmps171
  go_wp2_with (go_at_call 227; refine hcl.out.mono ?_; rintro e w1 ⟨rfl, hd1, hb1, hz1⟩; have k7 : w1.cell? ⟨r.p, 7, none⟩ = some (.map (some r.ml)) := (hb1.cell (p := ⟨r.p, 7, none⟩) hpl).trans c7; have k8 : w1.cell? ⟨r.p, 8, none⟩ = some r.pv := (hb1.cell (p := ⟨r.p, 8, none⟩) hpl).trans c8; have g7 : w1.frozen? ⟨r.p, 7, none⟩ = false := (hb1.frozen (p := ⟨r.p, 7, none⟩) hpl).trans f7; have g8 : w1.frozen? ⟨r.p, 8, none⟩ = false := (hb1.frozen (p := ⟨r.p, 8, none⟩) hpl).trans f8; have k78 : ∀ v, (w1.setCell ⟨r.p, 7, none⟩ v).cell? ⟨r.p, 8, none⟩ = some r.pv := fun v => cell_set k8 (by decide))
  go_end0
  have hs1 : Sys w1 r s := h.below hb1
  have hne : ∀ k, k ≠ r.p → ((w1.setCell ⟨r.p, 7, none⟩ (.map (some w.heap.size))).setCell ⟨r.p, 8, none⟩ (.slice none 0 0)).heap[k]? = w1.heap[k]? := fun k hk => (heap_setCell_other _ ⟨r.p, 8, none⟩ k _ hk).trans (heap_setCell_other _ ⟨r.p, 7, none⟩ k _ hk)
  refine ⟨rfl, r.settled w.heap.size, ⟨?_, ?_, ?_, ?_, h.len, ?_, ?_, h.wf.settle⟩, rfl, ?_, ?_⟩
  · have h1 := heap_setCell_same w1 r.p 7 _ _ (.map (some w.heap.size)) hs1.cells
    exact heap_setCell_same _ r.p 8 _ _ (.slice none 0 0) h1
  · exact hs1.now.kept (hne _ (fun e => A.out.pn e.symm))
  · exact hd1.kept (hne _ (by omega))
  · exact row_nil _ _ _
  · intro i x f hx hf
    exact (hs1.file i x f hx hf).kept fun k hk => hne k (A.out.fs k (List.mem_flatMap.2 ⟨x, List.mem_of_getElem? hx, hk⟩)).1
  · exact nodup_settled h.apart (fun hm => Nat.lt_irrefl _ (h.lt _ hm))
  · exact ((turn_of_below (F := r.foot) hb1).setCell (.inl (by simp [Rep.foot])) _).setCell (.inl (by simp [Rep.foot])) _
  · intro k hk
    rw [foot_settled] at hk
    rw [foot_iff]
    rcases hk with hk | hk | hk | hk
    · exact .inl (.inl hk)
    · exact .inl (.inr (.inl hk))
    · exact .inr (by omega)
    · exact .inl (.inr (.inr (.inr (.inr hk))))
theorem sync_off (fn : FuncId) (caps : Array Value) (b : Nat) (w : World) (h : w.cell? ⟨b, 1, none⟩ = some (.bool false)) :
    Calls Tryz.prog 218 #[.pointer (some ⟨b, 0, none⟩), .func (.func fn) #[] caps] w fun e w' => e = .returned (.int .i64 14) ∧ w = w' := by
  go_enter Tryz.func218, Tryz.ntmps218
  go_wp2_with (go_at_call 231; refine (begun_no _ _ h).mono ?_; rintro e w1 ⟨rfl, rfl⟩)
  go_ret
  exact ⟨rfl, rfl⟩
theorem sync_nil (fn : FuncId) (caps : Array Value) (w : World) :
    Calls Tryz.prog 218 #[.pointer none, .func (.func fn) #[] caps] w fun e w' => e = .returned (.int .i64 14) ∧ w = w' := by
  go_enter Tryz.func218, Tryz.ntmps218
  go_wp2_with (go_at_call 231; refine (begun_nil _).mono ?_; rintro e w1 ⟨rfl, rfl⟩)
  go_ret
  exact ⟨rfl, rfl⟩
theorem ends_any (w : World) (r : Rep) (s : St) (h : Sys w r s) (hb : s.bad ≤ 9223372036854775807) :
    Calls Tryz.prog 241 #[.pointer (some ⟨r.p, 5, none⟩)] w fun e w' => e = .returned (.bool (over s.bad)) ∧ Sys w' r s.bads ∧ Turn [r.p] w w' ∧ w'.heap.size = w.heap.size := by
  by_cases hneg : s.bad < 0
  · refine (ends_neg r.p 5 s.bad w h.c5 hneg).mono ?_
    rintro e w' ⟨rfl, rfl⟩
    refine ⟨rfl, ?_, Turn.refl _ _, rfl⟩
    have : s.bads = s := by simp [St.bads, tick, hneg]
    rw [this]
    exact h
  · refine (ends_pos r.p 5 s.bad w h.c5 (h.warm 5) (by omega) hb).mono ?_
    rintro e w' ⟨rfl, rfl⟩
    exact ⟨rfl, h.set (s' := s.bads) 5 _ (by simp [sysCells, St.bads, tick, hneg]) rfl rfl rfl rfl, (Turn.refl _ _).setCell (.inl (by simp)) _, by simp⟩
set_option maxHeartbeats 1000000 in
set_option maxRecDepth 100000 in
theorem sync_on (fn : FuncId) (caps : Array Value) (hfn : ∀ w : World, (callFunc fn caps).run Tryz.prog w = .ok (.enter fn caps) w) (act : St → St × Int) {w : World} {r : Rep} {s : St} (h : Sys w r s) (hon : s.on = true) (h1 : 0 ≤ s.steps) (h2 : s.steps ≤ 4611686018427387904) (hfu : s.fuse ≤ 9223372036854775807) (hba : s.bad ≤ 9223372036854775807)
    (hact : ∀ w1, Sys w1 r s.begun.bads → Turn [r.p] w w1 → w1.heap.size = w.heap.size → Calls Tryz.prog fn caps w1 fun e w' => e = .returned (.int .i64 (act s.begun.bads).2) ∧ Next w1 r (act s.begun.bads).1 w') :
    Calls Tryz.prog 218 #[.pointer (some ⟨r.p, 0, none⟩), .func (.func fn) #[] caps] w fun e w' => e = .returned (.int .i64 (sy s act).2) ∧ Next w r (sy s act).1 w' := by
  have hb := Lib.hid (begin_yes h hon h1 h2 hfu)
  have HE := Lib.hid (fun w1 (hs1 : Sys w1 r s.begun) => ends_any w1 r s.begun hs1 hba)
  have HA := Lib.hid hact
  clear hact
  have hsy : sy s act = if s.begun.on then (if over s.bad then (s.begun.bads, 16) else act s.begun.bads) else (s.begun.bads, 14) := by simp [sy, hon]
  rw [hsy]
  clear hsy
  have hbad : s.begun.bad = s.bad := rfl
  rw [hbad] at HE
  clear hbad
  generalize over s.bad = ov at HE ⊢
  cases hbo : s.begun.on
  · go_enter Tryz.func218, Tryz.ntmps218
    go_wp2_with (first | (go_at_call 231; refine hb.out.mono ?_; rintro e w1 ⟨rfl, hs1, ht1, hz1⟩) | (go_at_call 241; refine (HE.out _ hs1).mono ?_; rintro e w2 ⟨rfl, hs2, ht2, hz2⟩; have c1 : w2.cell? ⟨r.p, 1, none⟩ = some (.bool false) := by (rw [← hbo]; exact hs2.c1)))
    go_ret
    refine ⟨rfl, r, hs2, rfl, ?_, fun _ hk => .inl hk⟩
    exact ((ht1.trans ht2 (fun x hx => .inl hx)).mono (G := r.foot) (by simp [Rep.foot]))
  · cases ov
    · go_enter Tryz.func218, Tryz.ntmps218
      go_wp2_with (first | (go_at_call 231; refine hb.out.mono ?_; rintro e w1 ⟨rfl, hs1, ht1, hz1⟩) | (go_at_call 241; refine (HE.out _ hs1).mono ?_; rintro e w2 ⟨rfl, hs2, ht2, hz2⟩; have c1 : w2.cell? ⟨r.p, 1, none⟩ = some (.bool true) := by (rw [← hbo]; exact hs2.c1)))
      have ht3 : Turn [r.p] w w2 := ht1.trans ht2 (fun x hx => .inl hx)
      refine (HA.out _ hs2 ht3 (hz2.trans hz1)).mono ?_
      rintro e w3 ⟨rfl, hn3⟩
      go_wp2
      go_ret
      refine ⟨rfl, hn3.after (ht3.mono (G := r.foot) (by simp [Rep.foot])) (fun _ hk => .inl hk) rfl⟩
    · go_enter Tryz.func218, Tryz.ntmps218
      go_wp2_with (first | (go_at_call 231; refine hb.out.mono ?_; rintro e w1 ⟨rfl, hs1, ht1, hz1⟩) | (go_at_call 241; refine (HE.out _ hs1).mono ?_; rintro e w2 ⟨rfl, hs2, ht2, hz2⟩; have c1 : w2.cell? ⟨r.p, 1, none⟩ = some (.bool true) := by (rw [← hbo]; exact hs2.c1)))
      go_ret
      refine ⟨rfl, r, hs2, rfl, ?_, fun _ hk => .inl hk⟩
      exact ((ht1.trans ht2 (fun x hx => .inl hx)).mono (G := r.foot) (by simp [Rep.foot]))
theorem Lim.bads {n m : Nat} {s : St} (h : Lim n m s) : Lim n m s.bads := ⟨h.s0, h.s1, h.dirs, h.nowl, h.files, h.bytes, h.fuse, tick_le h.bad, h.room⟩
theorem syncDir1_any {w : World} {r : Rep} {s : St} {n m : Nat} (h : Sys w r s) (_ : Lim n m s) (_ : n ≤ 1000000) (bf : Nat) (kf : w.cell? ⟨bf, 0, none⟩ = some (.pointer (some ⟨r.p, 0, none⟩))) :
    Calls Tryz.prog 220 #[.pointer (some ⟨bf, 0, none⟩)] w fun e w' => e = .returned (.int .i64 ((fun s : St => (s.settle, (0 : Int))) s).2) ∧ Next w r ((fun s : St => (s.settle, (0 : Int))) s).1 w' := by
  have hs := Lib.hid (settle_any h)
  go_enter Tryz.func220, Tryz.ntmps220
  go_wp2_with (go_at_call 171; refine hs.out.mono ?_; rintro e w1 ⟨rfl, hn1⟩)
  go_ret
  exact ⟨rfl, hn1⟩
set_option maxHeartbeats 1000000 in
set_option maxRecDepth 100000 in
theorem syncDir_any {w : World} {r : Rep} {s : St} {n m : Nat} (h : Sys w r s) (hL : Lim n m s) (hN : n ≤ 100000) :
    Calls Tryz.prog 142 #[.pointer (some ⟨r.p, 0, none⟩)] w fun e w' => e = .returned (.int .i64 (s.syncDir).2) ∧ Next w r (s.syncDir).1 w' := by
  have h1 := hL.s1
  have hB : ∀ k ∈ r.foot, k < w.heap.size := h.lt
  obtain ⟨W, hW⟩ : ∃ W, W = w.alloc (.cells #[.pointer (some ⟨r.p, 0, none⟩)] 63) := ⟨_, rfl⟩
  have hbW : Below w.heap.size w W := by rw [hW]; exact (Below.refl _ _).alloc (Nat.le_refl _) _
  have hsW : Sys W r s := h.below hbW
  have hwz : W.heap.size = w.heap.size + 1 := by rw [hW]; simp
  have hk0 : W.cell? ⟨w.heap.size, 0, none⟩ = some (.pointer (some ⟨r.p, 0, none⟩)) := by rw [hW]; exact ncell (by first | (simp; done) | (simp; omega)) rfl
  have hcall : Calls Tryz.prog 218 #[.pointer (some ⟨r.p, 0, none⟩), .func (.func 220) #[] #[.pointer (some ⟨w.heap.size, 0, none⟩)]] W fun e w' => e = .returned (.int .i64 (s.syncDir).2) ∧ Next W r (s.syncDir).1 w' := by
    cases hon : s.on
    · have hc : s.syncDir = (s, 14) := by unfold St.syncDir sy; rw [hon]; rfl
      rw [hc]
      refine (sync_off _ _ r.p W (by rw [← hon]; exact hsW.c1)).mono ?_
      rintro e w' ⟨he, rfl⟩
      exact ⟨he, hsW.next⟩
    · refine sync_on _ _ (fun _ => by kernel_rfl) (fun s => (s.settle, 0)) hsW hon hL.s0 (by omega) hL.fuse hL.bad (fun w1 hs1 ht1 hz1 => ?_)
      have hne : ∀ k, w.heap.size ≤ k → k ∉ [r.p] := by
        intro k hk
        have := hB r.p (by simp [Rep.foot])
        simp
        omega
      exact syncDir1_any hs1 hL.begun.bads (by omega)  _ ((ht1.cell (by omega) (hne _ (by omega))).trans hk0)
  have Hc := Lib.hid hcall
  have HB := Lib.hid hbW
  clear hcall hk0 hsW hwz hbW
  rw [hW] at Hc HB
  clear hW
  go_enter Tryz.func142, Tryz.ntmps142
  go_wp2_with (go_at_call 218; refine Hc.out.mono ?_; rintro e w' ⟨rfl, hn'⟩)
  go_ret
  exact ⟨rfl, hn'.after (turn_of_below HB.out) (fun _ hk => .inl hk) rfl⟩
end Go.Proofs.YtlgcbapgbpofoaaGreat
