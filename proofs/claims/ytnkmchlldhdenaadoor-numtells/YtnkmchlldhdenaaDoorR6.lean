/- A nil slice that came in has no room. -/
import Derived.Test.YtnkmchlldhdenaaDoorW10
namespace Go.Proofs.YtnkmchlldhdenaaDoor
open Go.RowKit Go.ChangeShapes Go.WideShapes Go.ChangeAt

theorem rowU_nil {H : Type} {enc : TypeId × Value → H} {w : World} {base fuel : Nat} {held : Bool} {a : Option Addr} {len cap : Nat} {x : DataW H × List MemPlace}
    (h : DataW.trod enc Tryd.prog w base (fun _ => true) held fuel 23 (Value.slice a len cap).cells.toList = some x) : a = none → cap = 0 := by
  rcases open_ints Tryd.underlying23 Tryd.underlying22 cells8 h with ⟨hcs, _⟩ | ⟨y, l, c, zs, hcs, _, hl, hm, hz, _, hcell, hwz⟩
  · simp [Value.cells] at hcs
    exact fun _ => hcs.2.2
  · simp [Value.cells] at hcs
    intro e
    rw [hcs.1] at e
    cases e
theorem rowS_nil {H : Type} {enc : TypeId × Value → H} {w : World} {base fuel : Nat} {held : Bool} {a : Option Addr} {len cap : Nat} {x : DataW H × List MemPlace}
    (h : DataW.trod enc Tryd.prog w base (fun _ => true) held fuel 24 (Value.slice a len cap).cells.toList = some x) : a = none → cap = 0 := by
  rcases open_strings Tryd.underlying24 Tryd.underlying9 cellsStr h with ⟨hcs, _⟩ | ⟨y, l, c, ss, hcs, _, hl, hm, hz, _, hcell, hws⟩
  · simp [Value.cells] at hcs
    exact fun _ => hcs.2.2
  · simp [Value.cells] at hcs
    intro e
    rw [hcs.1] at e
    cases e
end Go.Proofs.YtnkmchlldhdenaaDoor
