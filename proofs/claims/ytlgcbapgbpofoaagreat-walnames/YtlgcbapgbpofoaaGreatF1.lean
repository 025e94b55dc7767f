/- Append, Read, Restore, Steps, Fuse, Bad, New. -/
import Derived.Test.YtlgcbapgbpofoaaGreatFZ
import Derived.Lib.BufferRead
namespace Go.Proofs.YtlgcbapgbpofoaaGreat
open Go.RowKit

theorem act_on_append (n : Nm) (d : List UInt8) (s : St) : (actAppend n d s).1.on = s.on := by
  unfold actAppend
  split
  · rfl
  · split <;> rfl
set_option maxHeartbeats 1000000 in
set_option maxRecDepth 100000 in
theorem append_any {w : World} {r : Rep} {s : St} {n m : Nat} (h : Sys w r s) (hL : Lim n m s) (hN : n ≤ 100000) (name : ByteArray) (h_name : name.size ≤ maxLen) (data : ByteArray) (h_data : data.size ≤ maxLen) (hM : m ≤ 1000000000) (hD : data.size ≤ 1000000000) :
    Calls Tryz.prog 137 #[.pointer (some ⟨r.p, 0, none⟩), .string name, .string data] w fun e w' => e = .returned (.int .i64 (s.append name.data.toList data.data.toList).2) ∧ Next w r (s.append name.data.toList data.data.toList).1 w' := by
  have h1 := hL.s1
  have hB : ∀ k ∈ r.foot, k < w.heap.size := h.lt
  obtain ⟨W, hW⟩ : ∃ W, W = ((w.alloc (.cells #[.pointer (some ⟨r.p, 0, none⟩)] 63)).alloc (.cells #[.string name] 9)).alloc (.cells #[.string data] 9) := ⟨_, rfl⟩
  have hbW : Below w.heap.size w W := by rw [hW]; exact (((Below.refl _ _).alloc (Nat.le_refl _) _).alloc (by first | (simp; done) | (simp; omega)) _).alloc (by first | (simp; done) | (simp; omega)) _
  have hsW : Sys W r s := h.below hbW
  have hwz : W.heap.size = w.heap.size + 3 := by rw [hW]; simp
  have hk0 : W.cell? ⟨w.heap.size, 0, none⟩ = some (.pointer (some ⟨r.p, 0, none⟩)) := by rw [hW]; exact ocell (by first | (simp; done) | (simp; omega)) (ocell (by first | (simp; done) | (simp; omega)) (ncell (by first | (simp; done) | (simp; omega)) rfl))
  have hk1 : W.cell? ⟨w.heap.size + 1, 0, none⟩ = some (.string name) := by rw [hW]; exact ocell (by first | (simp; done) | (simp; omega)) (ncell (by first | (simp; done) | (simp; omega)) rfl)
  have hk2 : W.cell? ⟨w.heap.size + 2, 0, none⟩ = some (.string data) := by rw [hW]; exact ncell (by first | (simp; done) | (simp; omega)) rfl
  have hcall : Calls Tryz.prog 172 #[.pointer (some ⟨r.p, 0, none⟩), .func (.func 215) #[] #[.pointer (some ⟨w.heap.size, 0, none⟩), .pointer (some ⟨w.heap.size + 1, 0, none⟩), .pointer (some ⟨w.heap.size + 2, 0, none⟩)]] W fun e w' => e = .returned (.int .i64 (s.append name.data.toList data.data.toList).2) ∧ Next W r (s.append name.data.toList data.data.toList).1 w' := by
    cases hon : s.on
    · have hc : s.append name.data.toList data.data.toList = (s, 14) := by unfold St.append wr; rw [hon]; rfl
      rw [hc]
      refine (write_off _ _ r.p W (by rw [← hon]; exact hsW.c1)).mono ?_
      rintro e w' ⟨he, rfl⟩
      exact ⟨he, hsW.next⟩
    · refine write_on _ _ (fun _ => by kernel_rfl) (actAppend name.data.toList data.data.toList) hsW hon hL.s0 (by omega) hL.fuse (fun w1 hs1 ht1 hz1 => ?_) (act_on_append _ _ _)
      have hne : ∀ k, w.heap.size ≤ k → k ∉ [r.p] := by
        intro k hk
        have := hB r.p (by simp [Rep.foot])
        simp
        omega
      exact append1_any hs1 hL.begun (by omega) name h_name data h_data hM hD _ _ _ ((ht1.cell (by omega) (hne _ (by omega))).trans hk0) ((ht1.cell (by omega) (hne _ (by omega))).trans hk1) ((ht1.cell (by omega) (hne _ (by omega))).trans hk2)
  have Hc := Lib.hid hcall
  have HB := Lib.hid hbW
  clear hcall hk0 hk1 hk2 hsW hwz hbW
  rw [hW] at Hc HB
  clear hW
  go_enter Tryz.func137, Tryz.ntmps137
  go_wp2_with (go_at_call 172; refine Hc.out.mono ?_; rintro e w' ⟨rfl, hn'⟩)
  go_ret
  exact ⟨rfl, hn'.after (turn_of_below HB.out) (fun _ hk => .inl hk) rfl⟩
/-- The bytes of a row as a text. -/
theorem row_text {w : World} {v : Value} {l : List UInt8} (h : Row w 5 1 v l.length (byteVals l)) : (convert 109 9 v).run Tryz.prog w = .ok (.string ⟨l.toArray⟩) w := by
  have hc := h.cell
  obtain ⟨a, cap, rfl, -, -⟩ := h.le
  rcases h.2 with ⟨h0, hv | ⟨b, o, hv⟩⟩ | ⟨g, c, cur, hv, -⟩
  · have hl : l = [] := List.eq_nil_of_length_eq_zero h0
    subst hl
    cases hv
    exact Lib.run_convert_nil_bytes w 109 9 5 0 Tryz.underlying109 Tryz.underlying5 Tryz.underlying9
  · have hl : l = [] := List.eq_nil_of_length_eq_zero h0
    subst hl
    cases hv
    refine run_convert_bytes_back (P := Tryz.prog) w 109 9 5 ⟨b, o, none⟩ 0 [] Tryz.underlying109 Tryz.underlying5 Tryz.underlying9 (fun j hj => ?_)
    exact absurd hj (by simp)
  · cases hv
    refine run_convert_bytes_back (P := Tryz.prog) w 109 9 5 ⟨g, 0, none⟩ (c + 1) l Tryz.underlying109 Tryz.underlying5 Tryz.underlying9 (fun j hj => ?_)
    have hadd : (⟨g, 0, none⟩ : Addr).add j = ⟨g, 0 + j, none⟩ := by unfold Addr.add; split <;> simp_all
    rw [hadd]
    exact hc g 0 (c + 1) rfl j _ (by simp [byteVals, hj])
def readV (x : List UInt8 × Int) : Value := .tuple #[.string ⟨x.1.toArray⟩, .int .i64 x.2]
theorem read_nil (name : ByteArray) (w : World) : Calls Tryz.prog 50 #[.pointer none, .string name] w fun e w' => e = .returned (readV ([], 14)) ∧ w = w' := by
  go_enter Tryz.func50, Tryz.ntmps50
  go_wp2_with (go_at_call 46; refine (on_nil _).mono ?_; rintro e w1 ⟨rfl, rfl⟩)
  go_ret2
  exact ⟨rfl, rfl⟩
theorem read_off (b : Nat) (name : ByteArray) (w : World) (h : w.cell? ⟨b, 1, none⟩ = some (.bool false)) : Calls Tryz.prog 50 #[.pointer (some ⟨b, 0, none⟩), .string name] w fun e w' => e = .returned (readV ([], 14)) ∧ w = w' := by
  go_enter Tryz.func50, Tryz.ntmps50
  go_wp2_with (go_at_call 46; refine (on_at _ _ _ h).mono ?_; rintro e w1 ⟨rfl, rfl⟩)
  go_ret2
  exact ⟨rfl, rfl⟩
set_option maxHeartbeats 1000000 in
set_option maxRecDepth 100000 in
theorem read_any {w : World} {r : Rep} {s : St} (h : Sys w r s) (name : ByteArray) (hn : name.size ≤ maxLen) :
    Calls Tryz.prog 50 #[.pointer (some ⟨r.p, 0, none⟩), .string name] w fun e w' => e = .returned (readV (s.read name.data.toList)) ∧ w = w' := by
  have c1 := h.c1
  cases hon : s.on
  · have hc : s.read name.data.toList = ([], 14) := by unfold St.read; rw [hon]; rfl
    rw [hc]
    exact read_off r.p name w (by rw [← hon]; exact h.c1)
  · rw [hon] at c1
    have c6 := h.c6
    have hlook := dirLook h.now name hn
    rw [mapD_get] at hlook
    cases hg : dget s.now name.data.toList with
    | none =>
      have hfin := Lib.hid (show s.read name.data.toList = ([], 7) by unfold St.read; rw [hon, hg]; rfl)
      rw [hg, pAt_none] at hlook
      clear hg hon
      go_enter Tryz.func50, Tryz.ntmps50
      go_wp2_with (go_at_call 46; refine (on_at _ _ _ c1).mono ?_; rintro e w1 ⟨rfl, rfl⟩)
      go_ret2
      rw [hfin.out]
      exact ⟨rfl, rfl⟩
    | some i =>
      obtain ⟨x, f, hx, hfi, hok, hat, hgd⟩ := h.here hg
      have hfin := Lib.hid (show s.read name.data.toList = (f.b, 0) by unfold St.read; rw [hon, hg]; simp only [if_true, hgd])
      rw [hg, pAt_map, hat] at hlook
      have k0 := hok.c0
      have hcv := row_text hok.row
      clear hg hon hgd hat
      go_enter Tryz.func50, Tryz.ntmps50
      go_wp2_with (go_at_call 46; refine (on_at _ _ _ c1).mono ?_; rintro e w1 ⟨rfl, rfl⟩)
      go_ret2
      rw [hfin.out]
      exact ⟨rfl, rfl⟩
theorem restore_nil (w : World) : Calls Tryz.prog 48 #[.pointer none] w fun e w' => e = .returned (.tuple #[]) ∧ w = w' := by
  go_enter Tryz.func48, Tryz.ntmps48
  go_wp2
  go_end0
  exact ⟨rfl, rfl⟩
theorem restore_any {w : World} {r : Rep} {s : St} (h : Sys w r s) :
    Calls Tryz.prog 48 #[.pointer (some ⟨r.p, 0, none⟩)] w fun e w' => e = .returned (.tuple #[]) ∧ Next w r s.restore w' := by
  have c0 := h.c0
  have c1 := h.c1
  have f1 := h.warm 1
  go_enter Tryz.func48, Tryz.ntmps48
  go_wp2
  go_end0
  exact ⟨rfl, r, h.set (s' := s.restore) 1 (.bool s.made) rfl rfl rfl rfl rfl, rfl, (Turn.refl _ _).setCell (.inl (by simp [Rep.foot])) _, fun _ hk => .inl hk⟩
theorem fuse_nil (n : Int) (w : World) : Calls Tryz.prog 45 #[.pointer none, .int .i64 n] w fun e w' => e = .returned (.tuple #[]) ∧ w = w' := by
  go_enter Tryz.func45, Tryz.ntmps45
  go_wp2
  go_end0
  exact ⟨rfl, rfl⟩
theorem fuse_any {w : World} {r : Rep} {s : St} (h : Sys w r s) (n : Int) :
    Calls Tryz.prog 45 #[.pointer (some ⟨r.p, 0, none⟩), .int .i64 n] w fun e w' => e = .returned (.tuple #[]) ∧ Next w r { s with fuse := n } w' := by
  have c4 := h.c4
  have f4 := h.warm 4
  go_enter Tryz.func45, Tryz.ntmps45
  go_wp2
  go_end0
  exact ⟨rfl, r, h.set (s' := { s with fuse := n }) 4 (.int .i64 n) rfl rfl rfl rfl rfl, rfl, (Turn.refl _ _).setCell (.inl (by simp [Rep.foot])) _, fun _ hk => .inl hk⟩
theorem bad_nil (n : Int) (w : World) : Calls Tryz.prog 147 #[.pointer none, .int .i64 n] w fun e w' => e = .returned (.tuple #[]) ∧ w = w' := by
  go_enter Tryz.func147, Tryz.ntmps147
  go_wp2
  go_end0
  exact ⟨rfl, rfl⟩
theorem bad_any {w : World} {r : Rep} {s : St} (h : Sys w r s) (n : Int) :
    Calls Tryz.prog 147 #[.pointer (some ⟨r.p, 0, none⟩), .int .i64 n] w fun e w' => e = .returned (.tuple #[]) ∧ Next w r { s with bad := n } w' := by
  have c5 := h.c5
  have f5 := h.warm 5
  go_enter Tryz.func147, Tryz.ntmps147
  go_wp2
  go_end0
  exact ⟨rfl, r, h.set (s' := { s with bad := n }) 5 (.int .i64 n) rfl rfl rfl rfl rfl, rfl, (Turn.refl _ _).setCell (.inl (by simp [Rep.foot])) _, fun _ hk => .inl hk⟩
theorem steps_nil (w : World) : Calls Tryz.prog 164 #[.pointer none] w fun e w' => e = .returned (.int .i64 0) ∧ w = w' := by
  go_enter Tryz.func164, Tryz.ntmps164
  go_wp2
  go_ret
  exact ⟨rfl, rfl⟩
theorem steps_any {w : World} {r : Rep} {s : St} (h : Sys w r s) :
    Calls Tryz.prog 164 #[.pointer (some ⟨r.p, 0, none⟩)] w fun e w' => e = .returned (.int .i64 s.steps) ∧ w = w' := by
  have c3 := h.c3
  go_enter Tryz.func164, Tryz.ntmps164
  go_wp2
  go_ret
  exact ⟨rfl, rfl⟩
theorem new_any (room : Int) (w : World) :
    Calls Tryz.prog 24 #[.int .i64 room] w fun e w' => ∃ r, e = .returned (.pointer (some ⟨r.p, 0, none⟩)) ∧ Sys w' r (St.new room) ∧ Below w.heap.size w w' ∧ ∀ k ∈ r.foot, w.heap.size ≤ k := by
  have hmm := @run_makeMap Tryz.prog
  go_enter Tryz.func24, Tryz.ntmps24
  go_wp2
  go_ret
  have hm1 : DirAt (((w.alloc (.map #[] 0)).alloc (.map #[] 0)).alloc (.cells #[.bool true, .bool true, .int .i64 room, .int .i64 0, .int .i64 (-1), .int .i64 (-1), .map (some w.heap.size), .map (some (w.heap.size + 1)), .slice none 0 0] 167)) w.heap.size [] :=
    ((World.ownsMap_made w Tryz.prog 9 pElem).alloc _).alloc _
  have hm2 : DirAt (((w.alloc (.map #[] 0)).alloc (.map #[] 0)).alloc (.cells #[.bool true, .bool true, .int .i64 room, .int .i64 0, .int .i64 (-1), .int .i64 (-1), .map (some w.heap.size), .map (some (w.heap.size + 1)), .slice none 0 0] 167)) (w.heap.size + 1) [] := by
    have := (World.ownsMap_made (w.alloc (.map #[] 0)) Tryz.prog 9 pElem).alloc (.cells #[.bool true, .bool true, .int .i64 room, .int .i64 0, .int .i64 (-1), .int .i64 (-1), .map (some w.heap.size), .map (some (w.heap.size + 1)), .slice none 0 0] 167)
    have e : (w.alloc (.map #[] 0)).heap.size = w.heap.size + 1 := by simp
    rw [e] at this
    exact this
  refine ⟨⟨w.heap.size + 2, w.heap.size, w.heap.size + 1, .slice none 0 0, []⟩, rfl, ⟨?_, hm1, hm2, row_nil _ _ _, rfl, fun i x f hx => by simp at hx, ?_, ⟨fun p hp => (by cases hp), fun p hp => (by cases hp), fun p hp => (by cases hp), fun p hp => (by cases hp), fun p hp => (by cases hp), fun p hp => (by cases hp)⟩⟩, ?_, ?_⟩
  · have := heap_alloc_new ((w.alloc (.map #[] 0)).alloc (.map #[] 0)) (.cells #[.bool true, .bool true, .int .i64 room, .int .i64 0, .int .i64 (-1), .int .i64 (-1), .map (some w.heap.size), .map (some (w.heap.size + 1)), .slice none 0 0] 167)
    have e : ((w.alloc (.map #[] 0)).alloc (.map #[] 0)).heap.size = w.heap.size + 2 := by simp
    rw [e] at this
    exact this
  · simp [Rep.foot, Rep.rest, ob]
  · exact (((Below.refl _ _).alloc (Nat.le_refl _) _).alloc (by simp) _).alloc (by simp; omega) _
  · intro k hk
    simp [Rep.foot, Rep.rest, ob] at hk
    omega
end Go.Proofs.YtlgcbapgbpofoaaGreat
