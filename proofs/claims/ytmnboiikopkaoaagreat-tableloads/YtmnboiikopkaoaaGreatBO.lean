/- The document's own ordered. -/
import Derived.Test.YtmnboiikopkaoaaGreatBS
namespace Go.Proofs.YtmnboiikopkaoaaGreat
open Go.RowKit

theorem kkB {W W' : World} {p : Addr} {v : Value} (hb : Below W.heap.size W W') (h : W.cell? p = some v) : W'.cell? p = some v := (hb.cell (World.block_lt_of_cell? W _ h)).trans h
end Go.Proofs.YtmnboiikopkaoaaGreat
