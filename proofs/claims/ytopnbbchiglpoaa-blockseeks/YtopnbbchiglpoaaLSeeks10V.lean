/- BlockSeeks' walk, whole. -/
import Derived.Test.YtopnbbchiglpoaaLSeeks10W
import Derived.Test.YtopnbbchiglpoaaLAlive10P
namespace Go.Proofs.Ytopnbbchiglpoaa
open Go.RowKit

theorem blockSeeks_walk (a : Option Addr) (len cap : Nat) (es : List Ent) (key : ByteArray) (hk : key.size ≤ maxLen) (w : World) (hI : IsEs w a len es) (_hnil : a = none → cap = 0) (hcap : len ≤ cap ∧ cap ≤ maxLen) :
    Calls Try.prog 4 #[.slice a len cap, .string key] w fun e w' => e = .returned (.bool true) ∧ Below w.heap.size w w' :=
  blockSeeks_hard alive10 a len cap es key hk hI hcap.1
end Go.Proofs.Ytopnbbchiglpoaa
