/- The statements' Book as a row of its own cells; lists of which some first ones are changed. -/
import Derived.Test.YtfndlfnlepndmaaGreatO2
namespace Go.Proofs.YtfndlfnlepndmaaGreat
open Go.RowKit

/-- The Book itself. -/
def bookR (b : Nat) (cs : List Value) : Rw := ⟨45, 28, .slice (some ⟨b, 0, none⟩) 1 1, 1, cs, none⟩
theorem mix_set {α : Type} (ms zs : List α) (q : Nat) (h : q < zs.length) (hl : ms.length = zs.length) : (ms.take q ++ zs.drop q).set q (ms[q]'(by omega)) = ms.take (q + 1) ++ zs.drop (q + 1) := by
  have h1 : (ms.take q).length = q := by rw [List.length_take]; omega
  rw [List.set_append_right _ _ (by omega), h1, Nat.sub_self, ← List.getElem_cons_drop h, List.set_cons_zero, List.take_succ_eq_append_getElem (by omega), List.append_assoc]
  rfl
theorem mix_length {α : Type} (ms zs : List α) (q : Nat) (h : q ≤ zs.length) (hl : ms.length = zs.length) : (ms.take q ++ zs.drop q).length = zs.length := by
  rw [List.length_append, List.length_take, List.length_drop]; omega
theorem own_drew {B : Nat} {w : World} {rs : List Rw} {p : Addr} {u : Value} (h : Own B (w.setCell p u) rs) : Own B (w.drew.setCell p u) rs := h.below ⟨rfl, rfl, rfl, Nat.le_refl _, fun _ _ => rfl⟩
theorem drew_set {B : Nat} {w0 w : World} {p : Addr} {u : Value} (h : Below B w0 (w.setCell p u)) : Below B w0 (w.drew.setCell p u) := ⟨h.os, h.tape, h.output, h.size, h.block⟩
theorem Cov.self {B : Nat} {w : World} {r : Rw} (h : r.ok B w) (h0 : r.ob = none := by rfl) : Cov [r] r := by
  rcases h.slice h0 with ⟨hv, hn, -⟩ | ⟨g, cap, hv, hg, -⟩
  · exact .inl ⟨_, 0, hv, hn⟩
  · exact .inr ⟨r, List.mem_cons_self, h0, g, cap, hg, hv, List.prefix_refl _⟩
theorem Cov.grow {r r' : Rw} {os old : List Rw} {q : Rw} (h : Cov (r :: os) q) (hc : (vob r'.v = vob r.v ∧ r.xs <+: r'.xs) ∨ r ∈ old) (hb : r'.ob = none := by rfl) : Cov (r' :: (old ++ os)) q := by
  rcases h with h | ⟨s, hs, h0, g, cap, hg, hv, hp⟩
  · exact .inl h
  · rcases List.mem_cons.1 hs with rfl | hs
    · rcases hc with ⟨h1, h2⟩ | hc
      · exact .inr ⟨r', List.mem_cons_self, hb, g, cap, h1.trans hg, hv, hp.trans h2⟩
      · exact .inr ⟨s, List.mem_cons_of_mem _ (List.mem_append_left _ hc), h0, g, cap, hg, hv, hp⟩
    · exact .inr ⟨s, List.mem_cons_of_mem _ (List.mem_append_right _ hs), h0, g, cap, hg, hv, hp⟩
theorem Own.addNil {B : Nat} {w : World} {rs : List Rw} (h : Own B w rs) (e : TypeId) (size : Nat) : Own B w (⟨e, size, .slice none 0 0, 0, [], none⟩ :: rs) := by
  refine ⟨fun r hr => ?_, List.pairwise_cons.2 ⟨fun s _ => .inl rfl, h.2⟩⟩
  rcases List.mem_cons.1 hr with rfl | hr
  · exact ok_nil _ _ _ _
  · exact h.1 r hr
theorem Own.toFrontNil {B : Nat} {w : World} {A C : List Rw} (h : Own B w (A ++ C)) (e : TypeId) (size : Nat) : Own B w (A ++ (⟨e, size, .slice none 0 0, 0, [], none⟩ :: C)) := (h.addNil e size).fromFront
theorem perm_book (O r1 : Rw) (O1 G1 O2 D1 FX : List Rw) : (O :: r1 :: (O1 ++ (G1 ++ (O2 ++ (D1 ++ FX))))).Perm (G1 ++ ([r1] ++ (O1 ++ (O2 ++ (D1 ++ (O :: FX)))))) := by
  have h1 : (O1 ++ (O2 ++ (D1 ++ (O :: FX)))).Perm (O :: (O1 ++ (O2 ++ (D1 ++ FX)))) := by
    have := (List.Perm.append_left O2 (List.perm_middle (a := O) (l₁ := D1) (l₂ := FX))).trans List.perm_middle
    exact (List.Perm.append_left O1 this).trans List.perm_middle
  have h2 : (G1 ++ ([r1] ++ (O1 ++ (O2 ++ (D1 ++ (O :: FX)))))).Perm (G1 ++ (r1 :: O :: (O1 ++ (O2 ++ (D1 ++ FX))))) := List.Perm.append_left G1 (List.Perm.cons _ h1)
  refine List.Perm.trans ?_ h2.symm
  have h3 : (G1 ++ (r1 :: O :: (O1 ++ (O2 ++ (D1 ++ FX))))).Perm (r1 :: O :: (G1 ++ (O1 ++ (O2 ++ (D1 ++ FX))))) := List.perm_middle.trans (List.Perm.cons _ List.perm_middle)
  refine List.Perm.trans ?_ h3.symm
  refine (List.Perm.swap _ _ _).trans (List.Perm.cons _ (List.Perm.cons _ ?_))
  rw [← List.append_assoc O1 G1, ← List.append_assoc G1 O1]
  exact List.Perm.append_right _ List.perm_append_comm
theorem perm_apart (A C : List Rw) (x y z : Rw) (R : List Rw) : (A ++ (C ++ (x :: y :: z :: R))).Perm (A ++ (x :: y :: (C ++ (z :: R)))) :=
  List.Perm.append_left A (List.perm_middle.trans (List.Perm.cons _ List.perm_middle))
theorem slice_form {B : Nat} {w : World} {r : Rw} (h : r.ok B w) (h0 : r.ob = none := by rfl) : ∃ a cap, r.v = .slice a r.n cap := by
  rcases h.slice h0 with ⟨hv, hn, -⟩ | ⟨g, cap, hv, -⟩
  · exact ⟨_, 0, by rw [hn]; exact hv⟩
  · exact ⟨_, cap, hv⟩
theorem slice_some {B : Nat} {w : World} {r : Rw} {a : Option Addr} {n cap : Nat} (h : r.ok B w) (hv : r.v = .slice a n cap) (hn : r.n ≠ 0) (h0 : r.ob = none := by rfl) : ∃ g, a = some ⟨g, 0, none⟩ := by
  rcases h.slice h0 with ⟨-, h1, -⟩ | ⟨g, cap', hv', -⟩
  · exact absurd h1 hn
  · rw [hv] at hv'
    simp only [Value.slice.injEq] at hv'
    exact ⟨g, hv'.1⟩
end Go.Proofs.YtfndlfnlepndmaaGreat
