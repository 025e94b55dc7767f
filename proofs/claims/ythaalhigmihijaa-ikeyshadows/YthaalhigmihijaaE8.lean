/- ikey's viewers: who may see a version, by its place. -/
import Derived.Test.YthaalhigmihijaaE7
import Derived.Maps.Own
import Derived.Maps.OwnOps
import Derived.Maps.OwnSet
import Derived.Maps.Views
namespace Go.Proofs.Ythaalhigmihijaa
open Go.RowKit Go.Shelf

structure Ent where
  k : ByteArray
  s : Int
  n : Int
  v : ByteArray
instance : Inhabited Ent := ⟨⟨⟨#[]⟩, 0, 0, ⟨#[]⟩⟩⟩
def Ent.cells (e : Ent) : List Value := [.string e.k, .int .u64 e.s, .int .i64 e.n, .string e.v]
def Ent.val (e : Ent) : Value := ev e.k e.s e.n e.v
/-- A slice of versions: there are none, or they lie in one block. -/
def EntsAt (n₀ : Nat) (w : World) (a : Option Addr) (len : Nat) (es : List Ent) : Prop :=
  es.length = len ∧ (len = 0 ∨ ∃ b off, a = some ⟨b, off, none⟩ ∧ b < n₀ ∧ ∀ i (h : i < es.length), ∀ j u, es[i].cells[j]? = some u → w.cell? ⟨b, off + i * 4 + j, none⟩ = some u)
theorem EntsAt.below {n₀ : Nat} {A B : World} {a : Option Addr} {len : Nat} {es : List Ent} (h : EntsAt n₀ A a len es) (hb : Below n₀ A B) : EntsAt n₀ B a len es := by
  refine ⟨h.1, ?_⟩
  rcases h.2 with h0 | ⟨b, off, e, hlt, hc⟩
  · exact .inl h0
  · exact .inr ⟨b, off, e, hlt, fun i hi j u hu => (hb.cell (p := ⟨b, off + i * 4 + j, none⟩) hlt).trans (hc i hi j u hu)⟩
theorem EntsAt.mono {n₀ n₁ : Nat} {w : World} {a : Option Addr} {len : Nat} {es : List Ent} (h : EntsAt n₀ w a len es) (hn : n₀ ≤ n₁) : EntsAt n₁ w a len es := by
  refine ⟨h.1, ?_⟩
  rcases h.2 with h0 | ⟨b, off, e, hlt, hc⟩
  · exact .inl h0
  · exact .inr ⟨b, off, e, Nat.lt_of_lt_of_le hlt hn, hc⟩
/-- Who is left behind the newer versions of a key. -/
def leftAt (es : List Ent) (zs : List Int) (i : Nat) : Nat := if 0 < i ∧ (es.getD (i - 1) default).k = (es.getD i default).k then cnt zs (es.getD (i - 1) default).s else zs.length + 1
def numAt (es : List Ent) (zs : List Int) (i : Nat) : Int := (leftAt es zs i : Int) - (cnt zs (es.getD i default).s : Int)
/-- How many may see the version at i. -/
def seenAt (es : List Ent) (zs : List Int) (i : Nat) : Int := if 0 < numAt es zs i then numAt es zs i else 0
/-- The map tells them of the first i. -/
def Tells (D : DataW Unit) (es : List Ent) (zs : List Int) (i : Nat) : Prop := ∀ j : Nat, D.atKey (.int .i64 (j : Int)) (.lit (.int .i64 0)) = .lit (.int .i64 (if j < i then seenAt es zs j else 0))
theorem tells_nil (es : List Ent) (zs : List Int) : Tells (.map []) es zs 0 := fun _ => rfl
theorem tells_skip {D : DataW Unit} {es : List Ent} {zs : List Int} {i : Nat} (h : Tells D es zs i) (h0 : ¬ 0 < numAt es zs i) : Tells D es zs (i + 1) := by
  intro j
  rw [h j]
  by_cases hj : j < i
  · rw [if_pos hj, if_pos (by omega)]
  · rw [if_neg hj]
    by_cases hj2 : j < i + 1
    · obtain rfl : j = i := by omega
      rw [if_pos hj2]
      unfold seenAt
      rw [if_neg h0]
    · rw [if_neg hj2]
theorem tells_put {D : DataW Unit} {es : List Ent} {zs : List Int} {i : Nat} (hD : Maps.IsMap D) (h : Tells D es zs i) (h0 : 0 < numAt es zs i) : Tells (D.put (.int .i64 (i : Int)) (.lit (.int .i64 (numAt es zs i)))) es zs (i + 1) := by
  intro j
  by_cases hj : j = i
  · subst hj
    rw [Maps.atKey_put_same hD (by trivial), if_pos (by omega)]
    unfold seenAt
    rw [if_pos h0]
  · rw [Maps.atKey_put_other (by simp; omega), h j]
    by_cases hj2 : j < i
    · rw [if_pos hj2, if_pos (by omega)]
    · rw [if_neg hj2, if_neg (by omega)]
end Go.Proofs.Ythaalhigmihijaa
