/- Plain facts: how great states become, and that what is pending stays in order. -/
import Derived.Test.YtlgcbapgbpofoaaGreatFL
namespace Go.Proofs.YtlgcbapgbpofoaaGreat
open Go.RowKit

theorem Lim.up {n m n' m' : Nat} {s : St} (h : Lim n m s) (hn : n ≤ n') (hm : m ≤ m') : Lim n' m' s := by
  have h1 := h.s1
  have h2 := h.dirs
  have h3 := h.nowl
  have h4 := h.files
  exact ⟨h.s0, by omega, by omega, by omega, by omega, fun f hf => Nat.le_trans (h.bytes f hf) hm, h.fuse, h.bad, h.room⟩
theorem doing_lim {n m : Nat} {s : St} (h : Lim n m s) (c : Chg) : Lim (n + 1) m (s.doing c) := by
  have h1 := h.s1
  have h2 := h.dirs
  have h3 := h.nowl
  have h4 := h.files
  have h5 := run_length c s.now
  refine ⟨h.s0, ?_, ?_, ?_, ?_, h.bytes, h.fuse, h.bad, h.room⟩
  · show s.steps ≤ _; omega
  · show s.last.length + (s.pend ++ [c]).length ≤ _; simp; omega
  · show (c.run s.now).length ≤ _; omega
  · show s.files.length ≤ _; omega
theorem set_lim {n m m' : Nat} {s : St} (h : Lim n m s) (i : Nat) (f : Fil) (hm : m ≤ m') (hf : f.b.length ≤ m') : Lim n m' { s with files := s.files.set i f } := by
  refine ⟨h.s0, h.s1, h.dirs, h.nowl, by simpa using h.files, fun g hg => ?_, h.fuse, h.bad, h.room⟩
  rcases List.mem_or_eq_of_mem_set hg with hg | rfl
  · exact Nat.le_trans (h.bytes g hg) hm
  · exact hf
theorem getD_len {n m : Nat} {s : St} (h : Lim n m s) (i : Nat) : (s.files.getD i default).b.length ≤ m := by
  rw [List.getD_eq_getElem?_getD]
  cases hg : s.files[i]? with
  | none => exact Nat.zero_le _
  | some f => exact h.bytes f (List.mem_of_getElem? hg)
theorem create_lim {n m : Nat} {s : St} (h : Lim n m s) (nm : Nm) : Lim (n + 2) m (s.create nm).1 := wr_lim h (fun _ => actCreate_lim h.begun nm) (by omega) (Nat.le_refl _)
theorem append_lim {n m : Nat} {s : St} (h : Lim n m s) (nm : Nm) (d : List UInt8) : Lim (n + 1) (m + d.length) (s.append nm d).1 := by
  refine wr_lim h (fun _ => ?_) (by omega) (by omega)
  have hb := h.begun
  unfold actAppend
  split
  · exact hb.up (Nat.le_refl _) (by omega)
  · split
    · exact hb.up (Nat.le_refl _) (by omega)
    · rename_i i _ _
      refine set_lim hb i _ (by omega) ?_
      have := getD_len hb i
      simp only [List.length_append]
      omega
theorem rename_lim {n m : Nat} {s : St} (h : Lim n m s) (a b : Nm) : Lim (n + 2) m (s.rename a b).1 := by
  refine wr_lim h (fun _ => ?_) (by omega) (Nat.le_refl _)
  have hb := h.begun
  unfold actRename
  split
  · split
    · split
      · exact hb.up (by omega) (Nat.le_refl _)
      · exact doing_lim hb _
    · exact hb.up (by omega) (Nat.le_refl _)
  · exact hb.up (by omega) (Nat.le_refl _)
theorem remove_lim {n m : Nat} {s : St} (h : Lim n m s) (a : Nm) : Lim (n + 2) m (s.remove a).1 := by
  refine wr_lim h (fun _ => ?_) (by omega) (Nat.le_refl _)
  have hb := h.begun
  unfold actRemove
  split
  · exact doing_lim hb _
  · exact hb.up (by omega) (Nat.le_refl _)
theorem sy_lim {n m : Nat} {s : St} {act : St → St × Int} (h : Lim n m s) (hact : ∀ t : St, Lim (n + 1) m t → Lim (n + 1) m (act t).1) : Lim (n + 1) m (sy s act).1 := by
  unfold sy
  split
  · split
    · split
      · exact h.begun.bads
      · exact hact _ h.begun.bads
    · exact h.begun.bads
  · exact h.up (by omega) (Nat.le_refl _)
theorem settle_lim {n m : Nat} {s : St} (h : Lim n m s) : Lim n m s.settle := by
  have h3 := h.nowl
  exact ⟨h.s0, h.s1, by simp [St.settle]; omega, h.nowl, h.files, h.bytes, h.fuse, h.bad, h.room⟩
theorem syncDir_lim {n m : Nat} {s : St} (h : Lim n m s) : Lim (n + 1) m s.syncDir.1 := sy_lim h (fun _ ht => settle_lim ht)
theorem sync_lim {n m : Nat} {s : St} (h : Lim n m s) (nm : Nm) : Lim (n + 1) m (s.sync nm).1 := by
  refine sy_lim h (fun t ht => ?_)
  unfold actSync
  split
  · exact ht
  · exact set_lim ht _ _ (Nat.le_refl _) (getD_len ht _)
theorem cuts_len : ∀ (d : Dir) (ks : List Int) (F : List Fil), (cuts F d ks).length = F.length
  | [], _, _ => rfl
  | p :: d, ks, F => by
    rw [cuts, cuts_len d]
    simp
theorem cuts_bytes {m : Nat} : ∀ (d : Dir) (ks : List Int) (F : List Fil), (∀ f ∈ F, f.b.length ≤ m) → ∀ f ∈ cuts F d ks, f.b.length ≤ m
  | [], _, _, h => h
  | p :: d, ks, F, h => by
    rw [cuts]
    refine cuts_bytes d _ _ (fun f hf => ?_)
    rcases List.mem_or_eq_of_mem_set hf with hf | rfl
    · exact h f hf
    · unfold Fil.cut
      simp only [List.length_take]
      have : (F.getD p.2 default).b.length ≤ m := by
        rw [List.getD_eq_getElem?_getD]
        cases hg : F[p.2]? with
        | none => exact Nat.zero_le _
        | some f => exact h f (List.mem_of_getElem? hg)
      omega
theorem crash_lim {n m : Nat} {s : St} (h : Lim n m s) (dir : Int) (ks : List Int) : Lim n m (s.crash dir ks) := by
  have h2 := h.dirs
  have h5 := redo_length (s.pend.take (modn dir (s.pend.length + 1))) s.last
  have h6 : (s.pend.take (modn dir (s.pend.length + 1))).length ≤ s.pend.length := by simp; omega
  refine ⟨h.s0, h.s1, ?_, ?_, ?_, ?_, by simp [St.crash], by simp [St.crash], h.room⟩
  · simp only [St.crash, List.length_nil]; omega
  · simp only [St.crash]; omega
  · simp only [St.crash, cuts_len]; exact h.files
  · exact cuts_bytes _ _ _ h.bytes
theorem restore_lim {n m : Nat} {s : St} (h : Lim n m s) : Lim n m s.restore := ⟨h.s0, h.s1, h.dirs, h.nowl, h.files, h.bytes, h.fuse, h.bad, h.room⟩
theorem new_lim (room : Int) (hr : room ≤ 9223372036854775807) : Lim 0 0 (St.new room) :=
  ⟨by simp [St.new], by simp [St.new], by simp [St.new], by simp [St.new], by simp [St.new], by simp [St.new], by simp [St.new], by simp [St.new], hr⟩
theorem Coh.of {s s' : St} (h : Coh s) (e1 : s'.now = s.now) (e2 : s'.last = s.last) (e3 : s'.pend = s.pend) : Coh s' := ⟨by rw [e2, e3]; exact h.able, by rw [e1, e2, e3]; exact h.now⟩
theorem doing_coh {s : St} (h : Coh s) {c : Chg} (ha : c.able s.now) : Coh (s.doing c) :=
  ⟨(able_snoc _ _ _).2 ⟨h.able, by show c.able (redo s.last s.pend); rw [← h.now]; exact ha⟩, by show c.run s.now = redo s.last (s.pend ++ [c]); rw [redo_snoc, ← h.now]⟩
theorem wr_coh {s : St} {act : St → St × Int} (h : Coh s) (hact : ∀ t : St, Coh t → Coh (act t).1) : Coh (wr s act).1 := by
  unfold wr
  split
  · exact hact _ (h.of rfl rfl rfl)
  · exact h
theorem sy_coh {s : St} {act : St → St × Int} (h : Coh s) (hact : ∀ t : St, Coh t → Coh (act t).1) : Coh (sy s act).1 := by
  unfold sy
  split
  · split
    · split
      · exact h.of rfl rfl rfl
      · exact hact _ (h.of rfl rfl rfl)
    · exact h.of rfl rfl rfl
  · exact h
theorem create_coh {s : St} (h : Coh s) (nm : Nm) : Coh (s.create nm).1 := by
  refine wr_coh h (fun t ht => ?_)
  unfold actCreate
  split
  · split
    · exact ht
    · exact doing_coh (s := t.more) (ht.of rfl rfl rfl) (.inr (by simp [Chg.file]))
  · exact ht
theorem append_coh {s : St} (h : Coh s) (nm : Nm) (d : List UInt8) : Coh (s.append nm d).1 := by
  refine wr_coh h (fun t ht => ?_)
  unfold actAppend
  split
  · exact ht
  · split
    · exact ht
    · exact ht.of rfl rfl rfl
theorem rename_coh {s : St} (h : Coh s) (hw : ∀ p ∈ s.now, isNm p.1 = true) (a b : Nm) : Coh (s.rename a b).1 := by
  have ht : Coh s.begun := h.of rfl rfl rfl
  unfold St.rename wr
  split
  · show Coh (actRename a b s.begun).1
    unfold actRename
    split
    · rename_i hs
      split
      · split
        · exact ht
        · obtain ⟨i, hi⟩ := Option.isSome_iff_exists.1 hs
          have ha := nm_ne (hw _ (mem_of_dget (l := s.now) hi))
          exact doing_coh ht (.inr (by simp only [Chg.file, if_neg ha]; exact hs))
      · exact ht
    · exact ht
  · exact h
theorem remove_coh {s : St} (h : Coh s) (a : Nm) : Coh (s.remove a).1 := by
  refine wr_coh h (fun t ht => ?_)
  unfold actRemove
  split
  · exact doing_coh ht (.inl rfl)
  · exact ht
theorem settle_coh (s : St) : Coh s.settle := ⟨trivial, rfl⟩
theorem syncDir_coh {s : St} (h : Coh s) : Coh s.syncDir.1 := sy_coh h (fun t _ => settle_coh t)
theorem sync_coh {s : St} (h : Coh s) (nm : Nm) : Coh (s.sync nm).1 := by
  refine sy_coh h (fun t ht => ?_)
  unfold actSync
  split
  · exact ht
  · exact ht.of rfl rfl rfl
theorem crash_coh (s : St) (dir : Int) (ks : List Int) : Coh (s.crash dir ks) := ⟨trivial, rfl⟩
theorem restore_coh {s : St} (h : Coh s) : Coh s.restore := h.of rfl rfl rfl
theorem new_coh (room : Int) : Coh (St.new room) := ⟨trivial, rfl⟩
end Go.Proofs.YtlgcbapgbpofoaaGreat
