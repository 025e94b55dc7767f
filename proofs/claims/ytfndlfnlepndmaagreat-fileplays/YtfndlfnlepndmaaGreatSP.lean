/- Twin of a System of the call's own. -/
import Derived.Test.YtfndlfnlepndmaaGreatSF
namespace Go.Proofs.YtfndlfnlepndmaaGreat
open Go.RowKit

/-- Behind Twin there are two: the one as it was, and another one that shows the same, all of it in new blocks. -/
theorem has_twin {B p n m : Nat} {s : St} {w : World} (h : Has B p n m s w) (hN : n ≤ 100000) (hM : m ≤ 1000000000) :
    Calls Tryz.prog 8 #[.pointer (some ⟨p, 0, none⟩)] w fun e w' => ∃ p' s' f, e = .returned (.pointer (some ⟨p', 0, none⟩)) ∧ Has w.heap.size p' n m s' w' ∧ TwinOf s s' f ∧ Has B p n m s w' ∧ Below w.heap.size w w' ∧ s'.names = s.names ∧ (∀ nm, s'.read nm = s.read nm) := by
  have h0 := h
  obtain ⟨r, h1, rfl, h3, h4, h5⟩ := h
  refine (twin_any h1 h5 h4 hN hM).mono ?_
  rintro e w' ⟨r', s', f, rfl, hs, ht, hf, hb⟩
  exact ⟨r'.p, s', f, rfl, ⟨r', hs, rfl, hf, ht.lim h5 h4, ht.coh h5⟩, ht, h0.below hb, hb, ht.names h5, ht.read h5⟩
end Go.Proofs.YtfndlfnlepndmaaGreat
