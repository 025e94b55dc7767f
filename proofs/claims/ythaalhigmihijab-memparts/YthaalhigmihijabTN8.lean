/- Ints that came in, as a slice that can be read. -/
import Derived.Test.YthaalhigmihijabTI
import Derived.Test.YthaalhigmihijabMS
namespace Go.Proofs.Ythaalhigmihijab
open Go.RowKit Go.ChangeShapes Go.WideShapes Go.ChangeAt

theorem rowI_nil {H : Type} {enc : TypeId × Value → H} {w : World} {base fuel : Nat} {held : Bool} {a : Option Addr} {len cap : Nat} {x : DataW H × List MemPlace}
    (h : DataW.trod enc Try.prog w base (fun _ => true) held fuel 23 (Value.slice a len cap).cells.toList = some x) : a = none → cap = 0 := by
  rcases open_ints Try.underlying23 Try.underlying3 cellsIntI h with ⟨hcs, _⟩ | ⟨y, l, c, zs, hcs, _, hl, hm, hz, _, hcell, hwz⟩
  · simp [Value.cells] at hcs
    exact fun _ => hcs.2.2
  · simp [Value.cells] at hcs
    intro e
    rw [hcs.1] at e
    cases e
theorem intsV_of {w : World} {a : Option Addr} {len cap : Nat} {ks : List Int} (h : IsIs w a len ks) (hn : a = none → cap = 0) : IntsV w (.slice a len cap) ks := by
  obtain ⟨-, hl, -, hr⟩ := h
  subst hl
  cases a with
  | none =>
    rcases hr with rfl | ⟨b, off, e, -⟩
    · exact .inl ⟨by rw [hn rfl]; rfl, rfl⟩
    · cases e
  | some y =>
    rcases hr with rfl | ⟨b, off, e, hc⟩
    · exact .inr ⟨y, cap, rfl, fun j u hu => by simp [cellsI] at hu⟩
    · cases e
      refine intsV_plain b off cap ks fun j u hu => ?_
      unfold cellsI at hu
      rw [List.getElem?_map] at hu
      obtain ⟨k, hk, rfl⟩ := Option.map_eq_some_iff.1 hu
      obtain ⟨hj, rfl⟩ := List.getElem?_eq_some_iff.1 hk
      exact hc j hj
end Go.Proofs.Ythaalhigmihijab
