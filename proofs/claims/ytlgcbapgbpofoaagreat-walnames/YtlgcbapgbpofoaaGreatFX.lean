/- One file of a System turns; Sync. -/
import Derived.Test.YtlgcbapgbpofoaaGreatFW
namespace Go.Proofs.YtlgcbapgbpofoaaGreat
open Go.RowKit

theorem set_split {α : Type} : ∀ {l : List α} {i : Nat} {x : α}, l[i]? = some x → ∃ A C, l = A ++ x :: C ∧ A.length = i ∧ ∀ y, l.set i y = A ++ y :: C
  | [], _, _, h => by simp at h
  | a :: l, 0, x, h => by
    simp at h
    subst h
    exact ⟨[], l, rfl, rfl, fun _ => rfl⟩
  | a :: l, i + 1, x, h => by
    simp only [List.getElem?_cons_succ] at h
    obtain ⟨A, C, rfl, hl, hs⟩ := set_split h
    refine ⟨a :: A, C, rfl, by simp [hl], fun y => ?_⟩
    simp only [List.set_cons_succ, hs y, List.cons_append]
theorem nodup_swap {x1 B : Nat} {o o' : Option Nat} {R : List Nat} (h : (x1 :: (o.toList ++ R)).Nodup) (hB : ∀ k ∈ x1 :: (o.toList ++ R), k < B) (ho : o' = o ∨ o' = none ∨ ∃ g, o' = some g ∧ B ≤ g) : (x1 :: (o'.toList ++ R)).Nodup := by
  rcases ho with rfl | rfl | ⟨g, rfl, hg⟩
  · exact h
  · refine List.Nodup.sublist ?_ h
    simp
  · have h' : (x1 :: R).Nodup := by
      refine List.Nodup.sublist ?_ h
      simp
    have hn : g ∉ x1 :: R := by
      intro hm
      have := hB g (by
        simp only [List.mem_cons, List.mem_append] at hm ⊢
        rcases hm with hm | hm
        · exact .inl hm
        · exact .inr (.inr hm))
      omega
    have : (x1 :: ((some g).toList ++ R)).Perm (g :: x1 :: R) := by
      simp only [Option.toList_some, List.singleton_append]
      exact List.Perm.swap _ _ _
    exact this.nodup_iff.2 (List.nodup_cons.2 ⟨hn, h'⟩)
def Rep.refile (r : Rep) (i : Nat) (x : Nat × Value) : Rep := { r with fs := r.fs.set i x }
theorem refile_at {r : Rep} {i : Nat} {x x' : Nat × Value} (hx : r.fs[i]? = some x) (h1 : x'.1 = x.1) (j : Nat) : (r.refile i x').at j = r.at j := by
  unfold Rep.at Rep.refile
  rw [List.getD_eq_getElem?_getD, List.getD_eq_getElem?_getD, List.getElem?_set]
  split
  · rename_i e
    subst e
    rw [hx]
    split
    · simp [h1]
    · rename_i hl
      exact absurd (List.getElem?_eq_some_iff.1 hx).1 hl
  · rfl
/-- The foot, with one file ahead. -/
theorem foot_perm {r : Rep} {A C : List (Nat × Value)} {x : Nat × Value} (h : r.fs = A ++ x :: C) : r.foot.Perm (x.1 :: ((ob x.2).toList ++ (r.p :: r.mn :: r.ml :: ((ob r.pv).toList ++ (A.flatMap fFoot ++ C.flatMap fFoot))))) := by
  unfold Rep.foot Rep.rest
  rw [h, List.flatMap_append, List.flatMap_cons]
  have e : r.p :: r.mn :: r.ml :: ((ob r.pv).toList ++ (A.flatMap fFoot ++ (fFoot x ++ C.flatMap fFoot))) = ([r.p, r.mn, r.ml] ++ (ob r.pv).toList ++ A.flatMap fFoot) ++ (fFoot x ++ C.flatMap fFoot) := by simp
  rw [e]
  refine (List.perm_append_comm_assoc _ (fFoot x) _).trans ?_
  unfold fFoot
  simp
theorem Sys.refile {w w' : World} {r : Rep} {s : St} {i : Nat} {x x' : Nat × Value} {f f' : Fil} (h : Sys w r s) (hx : r.fs[i]? = some x) (_hf : s.files[i]? = some f) (ok : FileOk w' x' f') (h1 : x'.1 = x.1)
    (ho : ob x'.2 = ob x.2 ∨ ob x'.2 = none ∨ ∃ g, ob x'.2 = some g ∧ w.heap.size ≤ g) (hk : ∀ k, k < w.heap.size → k ∉ fFoot x → w'.heap[k]? = w.heap[k]?) : Sys w' (r.refile i x') { s with files := s.files.set i f' } := by
  obtain ⟨A, C, hA, hl, hs⟩ := set_split hx
  have hP := foot_perm hA
  have hN := hP.nodup_iff.1 h.apart
  have hat : (r.refile i x').at = r.at := funext (refile_at hx h1)
  have hd : ∀ k ∈ r.foot, k ∉ fFoot x → w'.heap[k]? = w.heap[k]? := fun k hm hn => hk k (h.lt k hm) hn
  have hout : ∀ k, k ∈ r.p :: r.mn :: r.ml :: ((ob r.pv).toList ++ (A.flatMap fFoot ++ C.flatMap fFoot)) → w'.heap[k]? = w.heap[k]? := by
    intro k hm
    refine hd k (hP.mem_iff.2 (List.mem_cons_of_mem _ (List.mem_append_right _ hm))) ?_
    intro hf
    have h2 := List.nodup_cons.1 hN
    simp only [fFoot, List.mem_cons, Option.mem_toList] at hf
    rcases hf with rfl | hf
    · exact h2.1 (List.mem_append_right _ hm)
    · exact (List.nodup_append.1 h2.2).2.2 k (by simp [hf]) k hm rfl
  refine ⟨?_, ?_, ?_, ?_, ?_, ?_, ?_, ?_⟩
  · exact (hout r.p (by simp)).trans h.cells
  · rw [hat]
    exact h.now.kept (hout r.mn (by simp))
  · rw [hat]
    exact h.last.kept (hout r.ml (by simp))
  · rw [hat]
    exact h.pend.kept fun k e => hout k (by simp [e])
  · simp [Rep.refile, h.len]
  · intro j y g hy hg
    simp only [Rep.refile] at hy
    rw [List.getElem?_set] at hy hg
    by_cases hij : i = j
    · subst hij
      have hi1 := (List.getElem?_eq_some_iff.1 hx).1
      rw [if_pos rfl, if_pos hi1] at hy
      rw [if_pos rfl, if_pos (by rw [← h.len]; exact hi1)] at hg
      cases hy
      cases hg
      exact ok
    · rw [if_neg hij] at hy hg
      refine (h.file j y g hy hg).kept fun k hm => hout k ?_
      have hjy : y ∈ A ∨ y ∈ C := by
        rw [hA] at hy
        by_cases hjl : j < A.length
        · rw [List.getElem?_append_left hjl] at hy
          exact .inl (List.mem_of_getElem? hy)
        · rw [List.getElem?_append_right (by omega)] at hy
          obtain ⟨m, hm'⟩ : ∃ m, j - A.length = m + 1 := ⟨j - A.length - 1, by omega⟩
          rw [hm', List.getElem?_cons_succ] at hy
          exact .inr (List.mem_of_getElem? hy)
      simp only [List.mem_cons, List.mem_append, List.mem_flatMap]
      rcases hjy with hy' | hy'
      · exact .inr (.inr (.inr (.inr (.inl ⟨y, hy', hm⟩))))
      · exact .inr (.inr (.inr (.inr (.inr ⟨y, hy', hm⟩))))
  · have hP' := foot_perm (r := r.refile i x') (A := A) (C := C) (x := x') (hs x')
    refine hP'.nodup_iff.2 ?_
    show (x'.1 :: ((ob x'.2).toList ++ (r.p :: r.mn :: r.ml :: ((ob r.pv).toList ++ (A.flatMap fFoot ++ C.flatMap fFoot))))).Nodup
    rw [h1]
    exact nodup_swap hN (fun k hm => h.lt k (hP.mem_iff.2 hm)) ho
  · obtain ⟨a, b, c, d, e, g⟩ := h.wf
    exact ⟨fun p hp => by simpa using a p hp, b, fun p hp => by simpa using c p hp, fun c' hc' j hj => by simpa using d c' hc' j hj, e, g⟩
theorem refile_foot {r : Rep} {i : Nat} {x x' : Nat × Value} {B : Nat} (hx : r.fs[i]? = some x) (h1 : x'.1 = x.1) (ho : ob x'.2 = ob x.2 ∨ ob x'.2 = none ∨ ∃ g, ob x'.2 = some g ∧ B ≤ g) : ∀ k ∈ (r.refile i x').foot, k ∈ r.foot ∨ B ≤ k := by
  obtain ⟨A, C, hA, hl, hs⟩ := set_split hx
  have hP := foot_perm hA
  have hP' := foot_perm (r := r.refile i x') (A := A) (C := C) (x := x') (hs x')
  intro k hk
  have hk' := hP'.mem_iff.1 hk
  rw [hP.mem_iff]
  simp only [List.mem_cons, List.mem_append, Option.mem_toList] at hk' ⊢
  rcases hk' with e | e | e
  · exact .inl (.inl (e.trans h1))
  · rcases ho with ho | ho | ⟨g, ho, hg⟩
    · exact .inl (.inr (.inl (ho ▸ e)))
    · rw [ho] at e
      cases e
    · rw [ho] at e
      cases e
      exact .inr hg
  · exact .inl (.inr (.inr e))
/-- A name that is there: its file, and where it lies. -/
theorem Sys.here {w : World} {r : Rep} {s : St} (h : Sys w r s) {n : Nm} {i : Nat} (hg : dget s.now n = some i) : ∃ x f, r.fs[i]? = some x ∧ s.files[i]? = some f ∧ FileOk w x f ∧ r.at i = x.1 ∧ s.files.getD i default = f := by
  have hi := h.wf.now_ids _ (mem_of_dget hg)
  have hi' : i < r.fs.length := by rw [h.len]; exact hi
  refine ⟨r.fs[i], s.files[i], List.getElem?_eq_getElem hi', List.getElem?_eq_getElem hi, h.file i _ _ (List.getElem?_eq_getElem hi') (List.getElem?_eq_getElem hi), ?_, ?_⟩
  · simp [Rep.at, hi']
  · rw [List.getD_eq_getElem?_getD, List.getElem?_eq_getElem hi]
    rfl
theorem FileOk.slice {w : World} {x : Nat × Value} {f : Fil} (h : FileOk w x f) : ∃ a cap, x.2 = .slice a f.b.length cap ∧ f.b.length ≤ cap ∧ cap ≤ maxLen := h.row.le
theorem FileOk.c0 {w : World} {x : Nat × Value} {f : Fil} (h : FileOk w x f) : w.cell? ⟨x.1, 0, none⟩ = some x.2 := by simp [World.cell?, h.cells]
theorem FileOk.c1 {w : World} {x : Nat × Value} {f : Fil} (h : FileOk w x f) : w.cell? ⟨x.1, 1, none⟩ = some (.int .i64 f.syn) := by simp [World.cell?, h.cells]
theorem FileOk.warm {w : World} {x : Nat × Value} {f : Fil} (h : FileOk w x f) (j : Nat) : w.frozen? ⟨x.1, j, none⟩ = false := by simp [World.frozen?, h.cells]
theorem Sys.fs_foot {w : World} {r : Rep} {s : St} (_h : Sys w r s) {i : Nat} {x : Nat × Value} (hx : r.fs[i]? = some x) : ∀ k ∈ fFoot x, k ∈ r.foot := fun k hk => by
  rw [foot_iff]
  exact .inr (.inr (.inr (.inr (List.mem_flatMap.2 ⟨x, List.mem_of_getElem? hx, hk⟩))))
theorem fFoot_ne {w : World} {x : Nat × Value} {f : Fil} {r : Rep} {s : St} {i : Nat} (h : Sys w r s) (hx : r.fs[i]? = some x) (_ : FileOk w x f) : ob x.2 ≠ some x.1 := by
  intro e
  obtain ⟨A, C, hA, -, -⟩ := set_split hx
  have hN := (foot_perm hA).nodup_iff.1 h.apart
  exact (List.nodup_cons.1 hN).1 (by simp [e])
set_option maxHeartbeats 1000000 in
set_option maxRecDepth 100000 in
theorem sync1_any {w : World} {r : Rep} {s : St} {n m : Nat} (h : Sys w r s) (_ : Lim n m s) (_ : n ≤ 1000000) (name : ByteArray) (hn : name.size ≤ maxLen) (bf bn : Nat) (kf : w.cell? ⟨bf, 0, none⟩ = some (.pointer (some ⟨r.p, 0, none⟩))) (kn : w.cell? ⟨bn, 0, none⟩ = some (.string name)) :
    Calls Tryz.prog 219 #[.pointer (some ⟨bf, 0, none⟩), .pointer (some ⟨bn, 0, none⟩)] w fun e w' => e = .returned (.int .i64 (actSync name.data.toList s).2) ∧ Next w r (actSync name.data.toList s).1 w' := by
  have c6 := h.c6
  have hlook := dirLook (h.now.kept (w' := w.drew) rfl) name hn
  rw [mapD_get] at hlook
  cases hg : dget s.now name.data.toList with
  | none =>
    have hfin := Lib.hid (show actSync name.data.toList s = (s, 7) by unfold actSync; rw [hg])
    rw [hg, pAt_none] at hlook
    clear hg
    go_enter Tryz.func219, Tryz.ntmps219
    go_wp2
    go_region_held3 (fun w' => w'.cell? ⟨bn, 0, none⟩ = some (.string name) ∧ w'.cell? ⟨bf, 0, none⟩ = some (.pointer (some ⟨r.p, 0, none⟩)) ∧ w'.cell? ⟨r.p, 6, none⟩ = some (.map (some r.mn)) ∧ (Instr.lookup 164 (.map (some r.mn)) (.string name) false).run Tryz.prog w' = .ok (.pointer none) w') (go_keep) (fail)
    go_wp2
    go_ret
    rw [hfin.out]
    exact ⟨rfl, h.drew.next.drew0⟩
  | some i =>
    obtain ⟨x, f, hx, hfi, hok, hat, hgd⟩ := h.here hg
    have hfin := Lib.hid (show actSync name.data.toList s = ({ s with files := s.files.set i ⟨f.b, f.b.length⟩ }, 0) by unfold actSync; rw [hg]; simp only [hgd])
    rw [hg, pAt_map, hat] at hlook
    obtain ⟨a0, cap0, hsl, -, -⟩ := hok.slice
    have k0 := hok.c0
    rw [hsl] at k0
    have k1 := hok.c1
    have f1 := hok.warm 1
    have hend := Lib.hid (show Next w.drew r { s with files := s.files.set i ⟨f.b, f.b.length⟩ } (w.drew.setCell ⟨x.1, 1, none⟩ (.int .i64 f.b.length)) by
      have hk : ∀ k, k ≠ x.1 → (w.drew.setCell ⟨x.1, 1, none⟩ (.int .i64 f.b.length)).heap[k]? = w.drew.heap[k]? := fun k hk => heap_setCell_other _ ⟨x.1, 1, none⟩ k _ hk
      have ok' : FileOk (w.drew.setCell ⟨x.1, 1, none⟩ (.int .i64 f.b.length)) x ⟨f.b, f.b.length⟩ :=
        ⟨heap_setCell_same w.drew x.1 1 _ _ _ hok.cells, hok.row.kept (fun k e => hk k (fun e' => fFoot_ne h hx hok (e' ▸ e))), Nat.le_refl _⟩
      refine ⟨r.refile i x, h.drew.refile hx hfi ok' rfl (.inl rfl) (fun k _ hn => hk k (fun e => hn (by simp [fFoot, e]))), rfl, ?_, refile_foot hx rfl (.inl rfl)⟩
      exact (Turn.refl _ _).setCell (.inl (h.fs_foot hx _ (by simp [fFoot]))) _)
    clear hg hfi hgd hat
    go_enter Tryz.func219, Tryz.ntmps219
    go_wp2
    go_region_held3 (fun w' => w'.cell? ⟨bn, 0, none⟩ = some (.string name) ∧ w'.cell? ⟨bf, 0, none⟩ = some (.pointer (some ⟨r.p, 0, none⟩)) ∧ w'.cell? ⟨r.p, 6, none⟩ = some (.map (some r.mn)) ∧ (Instr.lookup 164 (.map (some r.mn)) (.string name) false).run Tryz.prog w' = .ok (.pointer (some ⟨x.1, 0, none⟩)) w') (go_keep) (fail)
    go_wp2
    go_ret
    rw [hfin.out]
    exact ⟨rfl, Next.drew0 hend.out⟩
set_option maxHeartbeats 1000000 in
set_option maxRecDepth 100000 in
theorem sync_any {w : World} {r : Rep} {s : St} {n m : Nat} (h : Sys w r s) (hL : Lim n m s) (hN : n ≤ 100000) (name : ByteArray) (h_name : name.size ≤ maxLen) :
    Calls Tryz.prog 140 #[.pointer (some ⟨r.p, 0, none⟩), .string name] w fun e w' => e = .returned (.int .i64 (s.sync name.data.toList).2) ∧ Next w r (s.sync name.data.toList).1 w' := by
  have h1 := hL.s1
  have hB : ∀ k ∈ r.foot, k < w.heap.size := h.lt
  obtain ⟨W, hW⟩ : ∃ W, W = (w.alloc (.cells #[.pointer (some ⟨r.p, 0, none⟩)] 63)).alloc (.cells #[.string name] 9) := ⟨_, rfl⟩
  have hbW : Below w.heap.size w W := by rw [hW]; exact ((Below.refl _ _).alloc (Nat.le_refl _) _).alloc (by first | (simp; done) | (simp; omega)) _
  have hsW : Sys W r s := h.below hbW
  have hwz : W.heap.size = w.heap.size + 2 := by rw [hW]; simp
  have hk0 : W.cell? ⟨w.heap.size, 0, none⟩ = some (.pointer (some ⟨r.p, 0, none⟩)) := by rw [hW]; exact ocell (by first | (simp; done) | (simp; omega)) (ncell (by first | (simp; done) | (simp; omega)) rfl)
  have hk1 : W.cell? ⟨w.heap.size + 1, 0, none⟩ = some (.string name) := by rw [hW]; exact ncell (by first | (simp; done) | (simp; omega)) rfl
  have hcall : Calls Tryz.prog 218 #[.pointer (some ⟨r.p, 0, none⟩), .func (.func 219) #[] #[.pointer (some ⟨w.heap.size, 0, none⟩), .pointer (some ⟨w.heap.size + 1, 0, none⟩)]] W fun e w' => e = .returned (.int .i64 (s.sync name.data.toList).2) ∧ Next W r (s.sync name.data.toList).1 w' := by
    cases hon : s.on
    · have hc : s.sync name.data.toList = (s, 14) := by unfold St.sync sy; rw [hon]; rfl
      rw [hc]
      refine (sync_off _ _ r.p W (by rw [← hon]; exact hsW.c1)).mono ?_
      rintro e w' ⟨he, rfl⟩
      exact ⟨he, hsW.next⟩
    · refine sync_on _ _ (fun _ => by kernel_rfl) (actSync name.data.toList) hsW hon hL.s0 (by omega) hL.fuse hL.bad (fun w1 hs1 ht1 hz1 => ?_)
      have hne : ∀ k, w.heap.size ≤ k → k ∉ [r.p] := by
        intro k hk
        have := hB r.p (by simp [Rep.foot])
        simp
        omega
      exact sync1_any hs1 hL.begun.bads (by omega) name h_name _ _ ((ht1.cell (by omega) (hne _ (by omega))).trans hk0) ((ht1.cell (by omega) (hne _ (by omega))).trans hk1)
  have Hc := Lib.hid hcall
  have HB := Lib.hid hbW
  clear hcall hk0 hk1 hsW hwz hbW
  rw [hW] at Hc HB
  clear hW
  go_enter Tryz.func140, Tryz.ntmps140
  go_wp2_with (go_at_call 218; refine Hc.out.mono ?_; rintro e w' ⟨rfl, hn'⟩)
  go_ret
  exact ⟨rfl, hn'.after (turn_of_below HB.out) (fun _ hk => .inl hk) rfl⟩
end Go.Proofs.YtlgcbapgbpofoaaGreat
