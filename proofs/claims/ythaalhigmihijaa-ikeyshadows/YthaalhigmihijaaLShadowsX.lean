/- Statement IkeyShadows of any versions, numbers, key and number. -/
import Derived.Test.YthaalhigmihijaaLShadowsW
import Derived.Test.YthaalhigmihijaaEV
import Derived.Test.YthaalhigmihijaaPG
namespace Go.Proofs.Ythaalhigmihijaa
open Go.RowKit

theorem ikeyShadows_walk (a : Option Addr) (len cap : Nat) (es : List Ent) (pa : Option Addr) (plen pcap : Nat) (zs : List Int) (key : ByteArray) (hk : key.size ≤ maxLen) (more : Nat) (_ : more < 18446744073709551616) (w : World) (hE : IsEs w a len es) (hP : IsRowU w pa plen zs) :
    Calls Try.prog 3 #[.slice a len cap, .slice pa plen pcap, .string key, .int .u64 (more : Int)] w fun e w' => e = .returned (.bool true) ∧ Below w.heap.size w w' := by
  have hm : maxLen ≤ 9223372036854775807 := by unfold maxLen; omega
  exact shadows_hard sortsU_30 a len cap es pa plen pcap zs key more w hE.2.2 hE.2.1 (Nat.le_trans hE.1 hm) hP.2 (Nat.le_trans hP.1 hm) (Nat.le_trans hk hm)
end Go.Proofs.Ythaalhigmihijaa
