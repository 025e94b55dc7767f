/- What stays: everything outside some blocks. -/
import Derived.Below
import Derived.WalkKit
import Derived.Deep.QuietTactic
import Derived.Maps.AppendAt
namespace Go.Proofs.YtfndlfnlepndmaaGreat
open Go.RowKit

structure Turn (F : List Nat) (w w' : World) : Prop where
  os : w'.os = w.os
  tape : w'.tape = w.tape
  output : w'.output = w.output
  size : w.heap.size ≤ w'.heap.size
  block : ∀ k, k < w.heap.size → k ∉ F → w'.heap[k]? = w.heap[k]?

theorem Turn.refl (F : List Nat) (w : World) : Turn F w w := ⟨rfl, rfl, rfl, Nat.le_refl _, fun _ _ _ => rfl⟩
theorem Turn.trans {F G : List Nat} {a b c : World} (h : Turn F a b) (k : Turn G b c) (hG : ∀ x ∈ G, x ∈ F ∨ a.heap.size ≤ x) : Turn F a c :=
  ⟨k.os.trans h.os, k.tape.trans h.tape, k.output.trans h.output, Nat.le_trans h.size k.size, fun i hi hn => by
    refine (k.block i (Nat.lt_of_lt_of_le hi h.size) (fun hg => ?_)).trans (h.block i hi hn)
    rcases hG i hg with h1 | h1
    · exact hn h1
    · omega⟩
theorem Turn.mono {F G : List Nat} {a b : World} (h : Turn F a b) (hG : ∀ x ∈ F, x ∈ G ∨ a.heap.size ≤ x) : Turn G a b :=
  ⟨h.os, h.tape, h.output, h.size, fun i hi hn => h.block i hi (fun hf => by
    rcases hG i hf with h1 | h1
    · exact hn h1
    · omega)⟩
theorem Turn.below {F : List Nat} {a b : World} {B : Nat} (h : Turn F a b) (hB : B ≤ a.heap.size) (hF : ∀ x ∈ F, B ≤ x) : Below B a b :=
  ⟨h.os, h.tape, h.output, h.size, fun i hi => h.block i (by omega) (fun hf => by have := hF i hf; omega)⟩
theorem Turn.cell {F : List Nat} {a b : World} (h : Turn F a b) {k j : Nat} (hk : k < a.heap.size) (hF : k ∉ F) : b.cell? ⟨k, j, none⟩ = a.cell? ⟨k, j, none⟩ := World.cell?_of_block (h.block k hk hF)
theorem Turn.frozen {F : List Nat} {a b : World} (h : Turn F a b) {k j : Nat} (hk : k < a.heap.size) (hF : k ∉ F) : b.frozen? ⟨k, j, none⟩ = a.frozen? ⟨k, j, none⟩ := World.frozen?_of_block (h.block k hk hF)
theorem turn_of_below {F : List Nat} {a b : World} (h : Below a.heap.size a b) : Turn F a b := ⟨h.os, h.tape, h.output, h.size, fun i hi _ => h.block i hi⟩
theorem turn_of_grown {F : List Nat} {a b : World} {row : Option Nat} (h : a.grownBy b row) (hr : ∀ k, row = some k → k ∈ F ∨ a.heap.size ≤ k) : Turn F a b :=
  ⟨h.os, h.tape, h.output, h.size, fun i hi hn => h.block i hi (fun e => by
    rcases hr i e.symm with h1 | h1
    · exact hn h1
    · omega)⟩
theorem Turn.alloc {F : List Nat} {a b : World} (h : Turn F a b) (o : Obj) : Turn F a (b.alloc o) :=
  h.trans (turn_of_below (F := []) ((Below.refl _ _).alloc (Nat.le_refl _) o)) (by simp)
theorem Turn.drew {F : List Nat} {a b : World} (h : Turn F a b) : Turn F a b.drew := ⟨h.os, h.tape, h.output, h.size, h.block⟩
theorem Turn.drewN {F : List Nat} {a b : World} (h : Turn F a b) (n : Nat) : Turn F a (b.drewN n) := ⟨h.os, h.tape, h.output, h.size, h.block⟩
theorem Turn.setCell {F : List Nat} {a b : World} (h : Turn F a b) {p : Addr} (hp : p.block ∈ F ∨ a.heap.size ≤ p.block) (v : Value) : Turn F a (b.setCell p v) := by
  refine h.trans (G := [p.block]) (turn_of_grown (row := some p.block) ?_ ?_) ?_
  · have hb := (Below.refl p.block b).setCell (Nat.le_refl _) v
    refine ⟨hb.os, hb.tape, hb.output, hb.size, fun i _ hi => ?_⟩
    have hne : i ≠ p.block := fun e => hi (by rw [e])
    exact Below.heap_setCell b p v i hne
  · intro k hk
    cases hk
    exact .inl (by simp)
  · intro x hx
    simp at hx
    subst hx
    exact hp
end Go.Proofs.YtfndlfnlepndmaaGreat
