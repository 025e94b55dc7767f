/- A list of ints that came in. -/
import Derived.Test.YtfndlfnlepndmaaGreatRows
import Derived.ProofKit
import Derived.OpenShut
import Derived.Test.YtfndlfnlepndmaaGreatFr3
import Derived.WalkKit
namespace Go.Proofs.YtfndlfnlepndmaaGreat
open Go.RowKit Go.ChangeShapes Go.WideShapes Go.ChangeAt

theorem add_plainI (b o j : Nat) : (⟨b, o, none⟩ : Addr).add j = ⟨b, o + j, none⟩ := by unfold Addr.add; split <;> simp_all
theorem cellsIntI : Tryz.prog.cellsOf 3 = 1 := by kernel_rfl
def fitsI (k : Int) : Prop := -9223372036854775808 ≤ k ∧ k ≤ 9223372036854775807
def IsRowI (w : World) (a : Option Addr) (ks : List Int) : Prop :=
  ks = [] ∨ ∃ b off, a = some ⟨b, off, none⟩ ∧ ∀ i (h : i < ks.length), w.cell? ⟨b, off + i, none⟩ = some (.int .i64 ks[i])
def IsIs (w : World) (a : Option Addr) (len : Nat) (ks : List Int) : Prop := len ≤ maxLen ∧ ks.length = len ∧ (∀ k ∈ ks, fitsI k) ∧ IsRowI w a ks
theorem rowI_of {H : Type} {enc : TypeId × Value → H} {w : World} {base fuel : Nat} {held : Bool} {a : Option Addr} {len cap : Nat} {x : DataW H × List MemPlace}
    (h : DataW.trod enc Tryz.prog w base (fun _ => true) held fuel 46 (Value.slice a len cap).cells.toList = some x) : len ≤ maxLen ∧ ∃ ks : List Int, ks.length = len ∧ (∀ k ∈ ks, fitsI k) ∧ IsRowI w a ks := by
  rcases open_ints Tryz.underlying46 Tryz.underlying3 cellsIntI h with ⟨hcs, _⟩ | ⟨y, l, c, zs, hcs, _, hl, hm, hz, _, hcell, hwz⟩
  · simp [Value.cells] at hcs
    obtain ⟨rfl, rfl, rfl⟩ := hcs
    exact ⟨by unfold maxLen; omega, [], rfl, by simp, .inl rfl⟩
  · simp [Value.cells] at hcs
    obtain ⟨rfl, rfl, rfl⟩ := hcs
    have hz' : zs.length = cap := by simpa using hz
    refine ⟨Nat.le_trans hl hm, zs.take len, by simp; omega, fun k hk => bounds_i64 (hwz k (List.mem_of_mem_take hk)), ?_⟩
    by_cases h0 : len = 0
    · left; subst h0; rfl
    · right
      have hc0 := hcell 0 (by omega)
      obtain ⟨b, off, spot⟩ := y
      have hs : spot = none := by simpa [Addr.add] using World.cell?_spot hc0
      subst hs
      refine ⟨b, off, rfl, ?_⟩
      intro i hi
      have hi' : i < len := by simp at hi; omega
      have hci := hcell i (by omega)
      have e : (zs.take len)[i] = zs[i]'(by omega) := by simp
      have e2 : zs.getD i 0 = zs[i]'(by omega) := by simp [List.getD, List.getElem?_eq_getElem (show i < zs.length by omega)]
      rw [e2] at hci
      rw [e]
      rw [add_plainI] at hci
      exact hci
end Go.Proofs.YtfndlfnlepndmaaGreat
