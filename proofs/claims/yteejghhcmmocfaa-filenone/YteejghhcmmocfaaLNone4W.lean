/- The walk of FileNone. -/
import Derived.Test.YteejghhcmmocfaaLNone4V
namespace Go.Proofs.Yteejghhcmmocfaa
open Go.RowKit

theorem fileNone_walk (a : ByteArray) (_ : a.size ≤ maxLen) (b : ByteArray) (_ : b.size ≤ maxLen) (w : World) :
    Calls Try.prog 4 #[.string a, .string b] w fun e w' => e = .returned (.bool true) ∧ Below w.heap.size w w' := by
  by_cases h : 3000 < a.size + b.size
  · exact none_easy a b w h
  · exact none_hard a b w (by omega)
end Go.Proofs.Yteejghhcmmocfaa
