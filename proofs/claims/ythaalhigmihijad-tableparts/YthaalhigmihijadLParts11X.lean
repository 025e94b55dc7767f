/- TableParts' walk. -/
import Derived.Test.YthaalhigmihijadLParts11W
import Derived.Test.YthaalhigmihijadTM
import Derived.Test.YthaalhigmihijadUD
import Derived.Test.YthaalhigmihijadLAlive11
namespace Go.Proofs.Ythaalhigmihijad
open Go.RowKit

theorem tableParts_walk (a : Option Addr) (len cap : Nat) (es : List Ent) (f : ByteArray) (hf : f.size ≤ maxLen) (m : ByteArray) (hm : m.size ≤ maxLen) (t : ByteArray) (ht : t.size ≤ maxLen) (seq : Nat) (hseq : seq < 18446744073709551616) (w : World) (hI : IsEs w a len es) (_hnil : a = none → cap = 0) (hcap : len ≤ cap ∧ cap ≤ maxLen) :
    Calls Try.prog 3 #[.slice a len cap, .string f, .string m, .string t, .int .u64 (seq : Int)] w fun e w' => e = .returned (.bool true) ∧ Below w.heap.size w w' := by
  exact tableParts_hard tabC (alive11 tabC name7) a len cap es f hf m hm t ht seq hseq hI hcap.1
end Go.Proofs.Ythaalhigmihijad
