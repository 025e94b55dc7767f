/- The document own Var, Text, Vars. -/
import Derived.Test.YtmnboiikopkaoaaGreatBR1
import Derived.Test.YtmnboiikopkaoaaGreatRows
import Derived.WalkKit
import Derived.OwnWalk
import Derived.WalkSpells
import Derived.WalkLawsBesides
import Derived.BigCall
import Derived.Laws.IdiomStrings
import Derived.Laws.BitsAllLaws
import Derived.Lib.VarintMem
import Derived.Lib.Zigzag
import Derived.Lib.VarintDec
import Derived.Lib.Slices
import Derived.Outline
import Derived.Lib.BufferRead
import Derived.Lib.Hide
import Derived.Lib.AppendIntMem
import Derived.Lib.ItoaLen
import Derived.Lib.VarintBits
import Derived.BigQuiet
import Derived.Deep.QuietTactic
import Derived.Deep.RegionWith
import Derived.ProofKit
import Derived.SliceStrings
import Derived.OpenShut
import Derived.Lib.AppendStr
namespace Go.Proofs.YtmnboiikopkaoaaGreat
open Go.RowKit
open Go.RowKit Go.ChangeShapes Go.WideShapes Go.ChangeAt

/-- The bytes of numbers, one behind the other. -/
def vars (zs : List Nat) : List UInt8 := (zs.map Lib.uvarint).flatten
theorem vars_snoc (zs : List Nat) (z : Nat) : vars (zs ++ [z]) = vars zs ++ Lib.uvarint z := by simp [vars]
theorem vars_length : ∀ (zs : List Nat), (∀ z ∈ zs, z < 18446744073709551616) → (vars zs).length ≤ 10 * zs.length
  | [], _ => by simp [vars]
  | z :: r, h => by
    have h1 := Lib.uvarint_length64 (h z (by simp))
    have h2 := vars_length r (fun x hx => h x (by simp [hx]))
    simp only [vars, List.map_cons, List.flatten_cons, List.length_append, List.length_cons] at *
    omega
theorem take_snoc_nat (zs : List Nat) (k : Nat) (h : k < zs.length) : zs.take (k + 1) = zs.take k ++ [zs[k]] := by
  rw [List.take_succ_eq_append_getElem h]
theorem strCells_eq (s : ByteArray) : Lib.strCells s = Lib.byteCells s.data.toList := rfl
theorem own_below {w w1 : World} {B : Nat} {e : TypeId} {z : Nat} {v : Value} {n : Nat} {xs : List Value} (h : w.ownsRow B e z v n xs) (hb : Below w.heap.size w w1) : w1.ownsRow B e z v n xs :=
  h.kept (grownBy_of_below hb none) (by cases v.ownBlock <;> simp)
end Go.Proofs.YtmnboiikopkaoaaGreat
