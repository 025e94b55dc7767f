/- Rows of texts that came in, later on. -/
import Derived.Test.YtdbdifbcfplegaaGT
namespace Go.Proofs.Ytdbdifbcfplegaa
open Go.RowKit

theorem rowS_below {w w' : World} {a : Option Addr} {len : Nat} {ss : List ByteArray} (h : IsRowS w a len ss) (hb : Below w.heap.size w w') : IsRowS w' a len ss := by
  obtain ⟨h1, h2, h3⟩ := h
  refine ⟨h1, h2, h3.imp id ?_⟩
  rintro ⟨b, off, rfl, hl, hc⟩
  exact ⟨b, off, rfl, Nat.lt_of_lt_of_le hl hb.size, fun i hi => (hb.cell (by exact hl)).trans (hc i hi)⟩
theorem rowS_cell {w : World} {a : Option Addr} {len : Nat} {ss : List ByteArray} (h : IsRowS w a len ss) (h0 : 0 < len) : ∃ b off, a = some ⟨b, off, none⟩ ∧ b < w.heap.size ∧ ∀ i (h : i < ss.length), w.cell? ⟨b, off + i, none⟩ = some (.string ss[i]) := by
  rcases h.2.2 with h3 | h3
  · omega
  · exact h3
end Go.Proofs.Ytdbdifbcfplegaa
