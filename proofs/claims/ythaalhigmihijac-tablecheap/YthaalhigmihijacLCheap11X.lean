/- TableCheap's walk. -/
import Derived.Test.YthaalhigmihijacTM
import Derived.Test.YthaalhigmihijacUD
import Derived.Test.YthaalhigmihijacLAlive11
namespace Go.Proofs.Ythaalhigmihijac
open Go.RowKit

theorem tableCheap_walk (a : Option Addr) (len cap : Nat) (es : List Ent) (key : ByteArray) (hk : key.size ≤ maxLen) (til : ByteArray) (ht : til.size ≤ maxLen) (w : World) (hI : IsEs w a len es) (_hnil : a = none → cap = 0) (hcap : len ≤ cap ∧ cap ≤ maxLen) :
    Calls Try.prog 5 #[.slice a len cap, .string key, .string til] w fun e w' => e = .returned (.bool true) ∧ Below w.heap.size w w' :=
  tableCheap_hard tabC (alive11 tabC name7) a len cap es key hk til ht hI hcap.1
end Go.Proofs.Ythaalhigmihijac
