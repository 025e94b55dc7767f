/- The names of a directory, in order; Names. -/
import Derived.Test.YtlgcbapgbpofoaaGreatF1
import Derived.Test.YtlgcbapgbpofoaaGreatLay
namespace Go.Proofs.YtlgcbapgbpofoaaGreat
open Go.RowKit Go.Maps Go.Sort Go.Shelf

/-- slices.Sort's two contracts at this dump, at the fence that asks nothing. -/
theorem sortsIn (m : Nat) : AnyZ.SortsIn Tryz.prog Tryz.sorted229_ren Fence.wide m :=
  ⟨fun blk off cap ss W hH hblk hsz => callsIn_wide.2 (AnyM.slices_Sort_string Tryz.sort247 blk off cap ss W hH hblk hsz),
   fun p cap W => callsIn_wide.2 (AnyM.slices_Sort_string_none Tryz.sort247 p cap W)⟩
theorem keys_any (mb : Option Nat) (W : World) : Calls Tryz.prog 230 #[.map mb] W fun e w' => e = .returned (.func (.func 248) #[] #[.pointer (some ⟨W.heap.size, 0, none⟩)]) ∧ w' = W.alloc (.cells #[.map mb] 164) :=
  (callsIn_wide (n := 5)).1 (AnyZ.keys_in Tryz.keys230 Fence.wide 5 trivial rfl mb W)
set_option maxHeartbeats 1000000 in
theorem sorted_any {H : Type} (b nn : Nat) (D0 : DataW H) (R : Value → Option (DataW H × List MemPlace)) (w : World) (hown : w.ownsMap Tryz.prog 9 R b nn D0) (hmax : Maps.size D0 ≤ maxLen) (hbytes : Maps.size D0 * 16 ≤ 140737488355328) :
    Calls Tryz.prog 229 #[.func (.func 248) #[] #[.pointer (some ⟨w.heap.size, 0, none⟩)]] (w.alloc (.cells #[.map (some b)] 164)) fun e w' => ∃ (v : Value) (ss : List (List UInt8)), e = .returned v ∧ ss.Perm (strKeys D0) ∧
      w'.ownsRow (w.alloc (.cells #[.map (some b)] 164)).heap.size 9 1 v ss.length ((ss.mergeSort (fun x y => decide (x ≤ y))).map encStr) ∧ (v = .slice none 0 0 ↔ ss = []) ∧ Below (w.alloc (.cells #[.map (some b)] 164)).heap.size (w.alloc (.cells #[.map (some b)] 164)) w' := by
  refine (callsIn_wide (n := 5)).1 ?_
  have hbl := hown.lt
  have hseq : SeqGives Fence.wide 2 Tryz.prog 248 #[.pointer (some ⟨w.heap.size, 0, none⟩)] encStr (fun ss => ss.Perm (strKeys D0)) (Maps.size D0) (w.alloc (.cells #[.map (some b)] 164)) :=
    AnyZ.keys_gives (ρ := Tryz.keys230_ren) { Tryz.keys230 with } Fence.wide _ trivial rfl (by omega) w.heap.size b nn D0 _ (by simp) (by simp) (by
      obtain ⟨es, clock, hb, Ft, hs, hD⟩ := hown
      exact ⟨es, clock, (Below.heap_alloc _ _ b hbl).trans hb, Ft, hs, hD⟩)
  exact AnyZ.sorted_in Tryz.sorted229 Fence.wide 5 trivial trivial trivial trivial rfl (by omega) (sortsIn _) (enters_of Tryz.func247 (by kernel_rfl) rfl) 248 #[.pointer (some ⟨w.heap.size, 0, none⟩)] trivial (enters_of Tryz.func248 (by kernel_rfl) rfl) _ _ hmax hbytes _ hseq

theorem before_lt : ∀ {a b : Nm}, bytesBefore a b = true → a < b
  | [], [], h => by simp [bytesBefore] at h
  | [], _ :: _, _ => List.nil_lt_cons _ _
  | _ :: _, [], h => by simp [bytesBefore] at h
  | x :: a, y :: b, h => by
    rw [bytesBefore] at h
    simp only [Bool.or_eq_true, decide_eq_true_eq, Bool.and_eq_true, beq_iff_eq] at h
    rw [List.cons_lt_cons_iff]
    rcases h with h | ⟨h1, h2⟩
    · exact .inl h
    · exact .inr ⟨h1, before_lt h2⟩
theorem sorted_names {l : Dir} (h : Rise l) {ss : List Nm} (hp : ss.Perm (l.map (·.1))) : ss.mergeSort (fun x y => decide (x ≤ y)) = l.map (·.1) := by
  have h1 : ss.mergeSort leB = (l.map (·.1)).mergeSort leB := mergeSort_of_perm hp
  show ss.mergeSort leB = _
  rw [h1]
  refine List.mergeSort_of_pairwise ?_
  rw [List.pairwise_map]
  exact h.imp fun hb => by simpa using List.le_of_lt (before_lt hb)
theorem row_of_owns {w : World} {B : Nat} {e : TypeId} {size : Nat} {v : Value} {n : Nat} {xs : List Value} (h : w.ownsRow B e size v n xs) : Row w e size v n xs ∧ ∀ k, ob v = some k → B ≤ k := by
  rcases h.2 with ⟨rfl, h0⟩ | ⟨g, cap, cur, rfl, hb, hg, h1, h2, h3, h4⟩
  · exact ⟨⟨h.1, .inl ⟨h0, .inl rfl⟩⟩, fun k hk => by simp [ob] at hk⟩
  · cases cap with
    | zero =>
      obtain rfl : n = 0 := by omega
      exact ⟨⟨h.1, .inl ⟨rfl, .inr ⟨_, _, rfl⟩⟩⟩, fun k hk => by simp [ob] at hk⟩
    | succ c => exact ⟨⟨h.1, .inr ⟨g, c, cur, rfl, hg, h1, h2, h3, h4⟩⟩, fun k hk => by simp [ob] at hk; omega⟩
def nmVals (l : List Nm) : List Value := l.map encStr
set_option maxHeartbeats 1000000 in
set_option maxRecDepth 100000 in
theorem names_any (b : Nat) (l : Dir) (w : World) (h : DirAt w b l) (hl : l.length ≤ 1000000) :
    Calls Tryz.prog 169 #[.map (some b)] w fun e w' => ∃ v, e = .returned v ∧ Row w' 9 1 v l.length (nmVals (l.map (·.1))) ∧ Below w.heap.size w w' ∧ ∀ k, ob v = some k → w.heap.size ≤ k := by
  have hsz : Maps.size (DataW.map (encD l)) = l.length := encD_length l
  have HK := Lib.hid (keys_any (some b) w)
  have HS := Lib.hid (sorted_any b _ _ _ w h (by rw [hsz]; unfold maxLen; omega) (by rw [hsz]; omega))
  have hris := Lib.hid (h.rise keyS)
  clear hsz
  go_enter Tryz.func169, Tryz.ntmps169
  go_wp2_with (first | (go_at_call 230; refine HK.out.mono ?_; rintro e w1 ⟨rfl, rfl⟩) | (go_at_call 229; refine HS.out.mono ?_; rintro e w2 ⟨v, ss, rfl, hp, hrow, hnil, hb⟩))
  go_ret
  rw [encD_keys] at hp
  obtain ⟨h1, h2⟩ := row_of_owns hrow
  have hlen : ss.length = l.length := by rw [hp.length_eq]; simp
  rw [sorted_names hris.out hp, hlen] at h1
  refine ⟨v, rfl, h1, ((Below.refl _ _).alloc (Nat.le_refl _) _).trans (hb.mono (by simp)), fun k hk => ?_⟩
  have := h2 k hk
  simp at this
  omega
theorem namesS_nil (w : World) : Calls Tryz.prog 161 #[.pointer none] w fun e w' => e = .returned (.slice none 0 0) ∧ w = w' := by
  go_enter Tryz.func161, Tryz.ntmps161
  go_wp2_with (go_at_call 46; refine (on_nil _).mono ?_; rintro e w1 ⟨rfl, rfl⟩)
  go_ret
  exact ⟨rfl, rfl⟩
theorem namesS_off (b : Nat) (w : World) (h : w.cell? ⟨b, 1, none⟩ = some (.bool false)) : Calls Tryz.prog 161 #[.pointer (some ⟨b, 0, none⟩)] w fun e w' => e = .returned (.slice none 0 0) ∧ w = w' := by
  go_enter Tryz.func161, Tryz.ntmps161
  go_wp2_with (go_at_call 46; refine (on_at _ _ _ h).mono ?_; rintro e w1 ⟨rfl, rfl⟩)
  go_ret
  exact ⟨rfl, rfl⟩
set_option maxHeartbeats 1000000 in
theorem namesS_any {w : World} {r : Rep} {s : St} {n m : Nat} (h : Sys w r s) (hL : Lim n m s) (hN : n ≤ 1000000) :
    Calls Tryz.prog 161 #[.pointer (some ⟨r.p, 0, none⟩)] w fun e w' => ∃ v, e = .returned v ∧ Row w' 9 1 v s.names.length (nmVals s.names) ∧ Below w.heap.size w w' ∧ ∀ k, ob v = some k → w.heap.size ≤ k := by
  have c1 := h.c1
  cases hon : s.on
  · refine (namesS_off r.p w (by rw [← hon]; exact h.c1)).mono ?_
    rintro e w' ⟨rfl, rfl⟩
    have : s.names = [] := by unfold St.names; rw [hon]; rfl
    rw [this]
    exact ⟨_, rfl, row_nil _ _ _, Below.refl _ _, fun k hk => by simp [ob] at hk⟩
  · have c6 := h.c6
    have hnow := hL.now h.wf
    have HN := Lib.hid (names_any r.mn _ w h.now (by unfold mapD; simp; omega))
    rw [mapD_names] at HN
    have hln : (mapD r.at s.now).length = (s.now.map (·.1)).length := by unfold mapD; simp
    rw [hln] at HN
    have hs : s.names = s.now.map (·.1) := by unfold St.names; rw [hon]; rfl
    rw [hs]
    rw [hon] at c1
    clear hs hln hnow hon
    go_enter Tryz.func161, Tryz.ntmps161
    go_wp2_with (first | (go_at_call 46; refine (on_at _ _ _ c1).mono ?_; rintro e w1 ⟨rfl, rfl⟩) | (go_at_call 169; refine HN.out.mono ?_; rintro e w2 ⟨v, rfl, hrow, hb, hf⟩))
    go_ret
    exact ⟨v, rfl, hrow, hb, hf⟩
end Go.Proofs.YtlgcbapgbpofoaaGreat
