/- slices.Clone of ints. -/
import Derived.Test.YtfndlfnlepndmaaGreatMN
import Derived.Test.YtfndlfnlepndmaaGreatFR
import Derived.Lib.BufferMore
import Derived.Lib.Hide
namespace Go.Proofs.YtfndlfnlepndmaaGreat
open Go.RowKit Go.Lib

theorem infoI8 : (Tryz.prog.info? 3).map (fun i => (i.zero, i.size, i.bytes)) = some (some (.int .i64 0), 1, 8) := by kernel_rfl
/-- Ints as cells. -/
def cellsI (ks : List Int) : List Value := ks.map fun k => .int .i64 k
theorem cellsI_one (ks : List Int) : ∀ u ∈ cellsI ks, u.oneCell' = true := by
  intro u hu
  obtain ⟨k, -, rfl⟩ := List.mem_map.1 hu
  rfl
theorem cellsI_length (ks : List Int) : (cellsI ks).length = ks.length := by simp [cellsI]
/-- A slice of ints that can be read: none at all, or one that lies somewhere. -/
def IntsV (w : World) (v : Value) (ks : List Int) : Prop := (v = .slice none 0 0 ∧ ks = []) ∨ ∃ y cap, v = .slice (some y) ks.length cap ∧ ∀ j u, (cellsI ks)[j]? = some u → w.cell? (y.add j) = some u
theorem intsV_plain {w : World} (b o cap : Nat) (ks : List Int) (hc : ∀ j u, (cellsI ks)[j]? = some u → w.cell? ⟨b, o + j, none⟩ = some u) : IntsV w (.slice (some ⟨b, o, none⟩) ks.length cap) ks :=
  .inr ⟨⟨b, o, none⟩, cap, rfl, fun j u hu => by
    have hadd : (⟨b, o, none⟩ : Addr).add j = ⟨b, o + j, none⟩ := by unfold Addr.add; split <;> simp_all
    rw [hadd]
    exact hc j u hu⟩
theorem IntsV.below {w w' : World} {v : Value} {ks : List Int} (h : IntsV w v ks) (hb : Below w.heap.size w w') : IntsV w' v ks := by
  rcases h with h | ⟨y, cap, rfl, hc⟩
  · exact .inl h
  · exact .inr ⟨y, cap, rfl, fun j u hu => (hb.cell (p := y.add j) (World.block_lt_of_cell? w _ (hc j u hu))).trans (hc j u hu)⟩
end Go.Proofs.YtfndlfnlepndmaaGreat
