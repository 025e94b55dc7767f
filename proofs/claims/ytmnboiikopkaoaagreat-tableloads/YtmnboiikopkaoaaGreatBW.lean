/- The document's own Range. -/
import Derived.Test.YtmnboiikopkaoaaGreatBE
import Derived.Deep.RegionLaw
import Derived.BigRegion
import Derived.Laws.Cover1
namespace Go.Proofs.YtmnboiikopkaoaaGreat
open Go.RowKit

def lessB (a b : ByteArray) : Bool := decide (Lib.compareBytes a.data.toList b.data.toList = -1)
def inRange (lo hi : ByteArray) (e : Ent) : Bool := !(lessB e.k lo) && (hi.toList.isEmpty || lessB e.k hi)
def rangeE (lo hi : ByteArray) (es : List Ent) : List Ent := es.filter (inRange lo hi)
theorem rangeE_take (lo hi : ByteArray) (es : List Ent) (i : Nat) (h : i < es.length) : rangeE lo hi (es.take (i + 1)) = rangeE lo hi (es.take i) ++ (if inRange lo hi es[i] = true then [es[i]] else []) := by
  unfold rangeE
  rw [List.take_succ_eq_append_getElem h, List.filter_append]
  congr 1
  by_cases hc : inRange lo hi es[i] = true
  · rw [if_pos hc]
    simp [hc]
  · rw [if_neg hc]
    simp [hc]
theorem rangeE_le (lo hi : ByteArray) (es : List Ent) : (rangeE lo hi es).length ≤ es.length := List.length_filter_le _ _
end Go.Proofs.YtmnboiikopkaoaaGreat
