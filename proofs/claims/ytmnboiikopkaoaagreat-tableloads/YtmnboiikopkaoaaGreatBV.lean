/- The document's own GetBlock: what its loop keeps. -/
import Derived.Test.YtmnboiikopkaoaaGreatBT
import Derived.Deep.RegionLaw
namespace Go.Proofs.YtmnboiikopkaoaaGreat
open Go.RowKit

/-- A version in memory, not frozen. -/
structure XB (w : World) (b : Nat) (x : Ent) : Prop where
  c0 : w.cell? ⟨b, 0, none⟩ = some (.string x.k)
  c1 : w.cell? ⟨b, 1, none⟩ = some (.int .u64 x.s)
  c2 : w.cell? ⟨b, 2, none⟩ = some (.int .i64 x.n)
  c3 : w.cell? ⟨b, 3, none⟩ = some (.string x.v)
  f : ∀ j, w.frozen? ⟨b, j, none⟩ = false
theorem frozen_blockB {w w' : World} {a : Addr} (h : w'.heap[a.block]? = w.heap[a.block]?) : w'.frozen? a = w.frozen? a := by unfold World.frozen?; rw [h]
theorem XB.lt {w : World} {b : Nat} {x : Ent} (h : XB w b x) : b < w.heap.size := World.block_lt_of_cell? w _ h.c0
theorem XB.kept {w w' : World} {b : Nat} {x : Ent} (h : XB w b x) (hb : w'.heap[b]? = w.heap[b]?) : XB w' b x :=
  ⟨(World.cell?_of_block hb).trans h.c0, (World.cell?_of_block hb).trans h.c1, (World.cell?_of_block hb).trans h.c2, (World.cell?_of_block hb).trans h.c3, fun j => (frozen_blockB (a := ⟨b, j, none⟩) hb).trans (h.f j)⟩
theorem XB.grown {w w' : World} {b : Nat} {r : Option Nat} {x : Ent} (h : XB w b x) (hg : w.grownBy w' r) (hr : some b ≠ r) : XB w' b x := h.kept (hg.block b h.lt hr)
theorem XB.new (w : World) : XB (w.alloc (.cells #[.string ⟨#[]⟩, .int .u64 0, .int .i64 0, .string ⟨#[]⟩] 48)) w.heap.size Ent.zero := by
  have h := new_block w (.cells #[.string ⟨#[]⟩, .int .u64 0, .int .i64 0, .string ⟨#[]⟩] 48) rfl
  exact ⟨by unfold World.cell?; rw [h]; rfl, by unfold World.cell?; rw [h]; rfl, by unfold World.cell?; rw [h]; rfl, by unfold World.cell?; rw [h]; rfl, fun j => by unfold World.frozen?; rw [h]; simp⟩
theorem XB.set0 {w : World} {b : Nat} {x : Ent} (h : XB w b x) (k : ByteArray) : XB (w.setCell ⟨b, 0, none⟩ (.string k)) b ⟨k, x.s, x.n, x.v⟩ :=
  ⟨World.cell?_setCell_same _ _ _ h.c0, (World.cell?_setCell_other _ _ _ _ (by simp)).trans h.c1, (World.cell?_setCell_other _ _ _ _ (by simp)).trans h.c2, (World.cell?_setCell_other _ _ _ _ (by simp)).trans h.c3, fun j => by simpa using h.f j⟩
theorem XB.set1 {w : World} {b : Nat} {x : Ent} (h : XB w b x) (s : Int) : XB (w.setCell ⟨b, 1, none⟩ (.int .u64 s)) b ⟨x.k, s, x.n, x.v⟩ :=
  ⟨(World.cell?_setCell_other _ _ _ _ (by simp)).trans h.c0, World.cell?_setCell_same _ _ _ h.c1, (World.cell?_setCell_other _ _ _ _ (by simp)).trans h.c2, (World.cell?_setCell_other _ _ _ _ (by simp)).trans h.c3, fun j => by simpa using h.f j⟩
theorem XB.set2 {w : World} {b : Nat} {x : Ent} (h : XB w b x) (n : Int) : XB (w.setCell ⟨b, 2, none⟩ (.int .i64 n)) b ⟨x.k, x.s, n, x.v⟩ :=
  ⟨(World.cell?_setCell_other _ _ _ _ (by simp)).trans h.c0, (World.cell?_setCell_other _ _ _ _ (by simp)).trans h.c1, World.cell?_setCell_same _ _ _ h.c2, (World.cell?_setCell_other _ _ _ _ (by simp)).trans h.c3, fun j => by simpa using h.f j⟩
theorem XB.set3 {w : World} {b : Nat} {x : Ent} (h : XB w b x) (v : ByteArray) : XB (w.setCell ⟨b, 3, none⟩ (.string v)) b ⟨x.k, x.s, x.n, v⟩ :=
  ⟨(World.cell?_setCell_other _ _ _ _ (by simp)).trans h.c0, (World.cell?_setCell_other _ _ _ _ (by simp)).trans h.c1, (World.cell?_setCell_other _ _ _ _ (by simp)).trans h.c2, World.cell?_setCell_same _ _ _ h.c3, fun j => by simpa using h.f j⟩
theorem Rdr.kept {w w' : World} {b : Nat} {l : List UInt8} {e : Int} (h : Rdr w b l e) (hb : w'.heap[b]? = w.heap[b]?) : Rdr w' b l e := by
  obtain ⟨s, hi, hl, hs⟩ := h
  exact ⟨s, ⟨(World.cell?_of_block hb).trans hi.c0, (World.cell?_of_block hb).trans hi.c1, (frozen_blockB (a := ⟨b, 0, none⟩) hb).trans hi.f0, (frozen_blockB (a := ⟨b, 1, none⟩) hb).trans hi.f1⟩, hl, hs⟩
theorem Rdr.set {w : World} {b X : Nat} {l : List UInt8} {e : Int} (h : Rdr w b l e) (hX : b ≠ X) (j : Nat) (v : Value) : Rdr (w.setCell ⟨X, j, none⟩ v) b l e := h.kept (Below.heap_setCell _ _ _ _ hX)
theorem growB_set {w w1 : World} {r : Option Nat} (h : w.grownBy w1 r) {B : Nat} (hB : w.heap.size ≤ B) (j : Nat) (v : Value) : w.grownBy (w1.setCell ⟨B, j, none⟩ v) r :=
  ⟨h.os, h.tape, h.output, by simpa [World.setCell] using h.size, fun k hk hr => (Below.heap_setCell w1 ⟨B, j, none⟩ v k (by show k ≠ B; omega)).trans (h.block k hk hr)⟩
theorem growB_alloc {w w1 : World} {r : Option Nat} (h : w.grownBy w1 r) (o : Obj) : w.grownBy (w1.alloc o) r :=
  grownBy_trans h (grownBy_of_below ((Below.refl w1.heap.size w1).alloc (Nat.le_refl _) o) r)
/-- How much a reader has before it. -/
def rdM (w : World) (b : Nat) : Nat :=
  match w.cell? ⟨b, 1, none⟩, w.cell? ⟨b, 0, none⟩ with
  | some (.int _ e), some (.string s) => if e = 0 then s.size + 1 else 0
  | _, _ => 0
theorem Rdr.m {w : World} {b : Nat} {l : List UInt8} {e : Int} (h : Rdr w b l e) : rdM w b = if e = 0 then l.length + 1 else 0 := by
  obtain ⟨s, hi, hl, -⟩ := h
  unfold rdM
  rw [hi.c0, hi.c1]
  by_cases he : e = 0
  · simp only [he, if_true]
    rw [← hl he, len_data']
  · simp only [he, if_false]
/-- What stands as a version more is read. -/
structure Going (D : Option (List Ent)) (m : Nat) (L l : List UInt8) (es : List Ent) : Prop where
  cnt : es.length * 5 + l.length ≤ m
  sum : sizeEs es + l.length ≤ 600 * es.length + m
  ok : ∀ x ∈ es, x.Ok
  last : L.length ≤ 600
  all : ∃ f, l.length ≤ f ∧ D = (decEs f L l).map (es ++ ·)
theorem Going.start (l : List UInt8) : Going (decEs l.length [] l) l.length [] l [] :=
  ⟨by simp, by simp [sizeEs], by simp, by simp, l.length, Nat.le_refl _, by simp⟩
theorem sizeEs_snoc (es : List Ent) (x : Ent) : sizeEs (es ++ [x]) = sizeEs es + sizeE x := by simp [sizeEs]
theorem Going.step {D : Option (List Ent)} {m : Nat} {L l : List UInt8} {es : List Ent} (h : Going D m L l es) (hl : l ≠ []) (h1 : (stB L l).1 ≤ L.length) (h2 : (stB L l).2.2.2 = 0) : Going D m (stB L l).2.1.k.data.toList (stB L l).2.2.1 (es ++ [(stB L l).2.1]) := by
  obtain ⟨f, hf, hD⟩ := h.all
  have hs := stB_any L l
  have hl2 := hs.2.2.2 h2
  have e1 := h.cnt
  have e2 := h.sum
  refine ⟨?_, ?_, ?_, ?_, decEs_yes hl hf hD h1 h2⟩
  · rw [List.length_append, List.length_singleton]; omega
  · rw [sizeEs_snoc, List.length_append, List.length_singleton]
    unfold sizeE
    have := hs.2.2.1
    omega
  · intro x hx
    rcases List.mem_append.1 hx with hx | hx
    · exact h.ok x hx
    · rw [List.mem_singleton.1 hx]; exact hs.2.1
  · rw [len_data']; exact hs.2.2.1
theorem Going.no {D : Option (List Ent)} {m : Nat} {L l : List UInt8} {es : List Ent} (h : Going D m L l es) (hl : l ≠ []) (h1 : L.length < (stB L l).1 ∨ (stB L l).2.2.2 ≠ 0) : D = none := by
  obtain ⟨f, hf, hD⟩ := h.all
  exact decEs_no hl hf hD h1
theorem Going.fin {D : Option (List Ent)} {m : Nat} {L : List UInt8} {es : List Ent} (h : Going D m L [] es) : D = some es := by
  obtain ⟨f, hf, hD⟩ := h.all
  rw [hD, decEs_nil]
  simp
end Go.Proofs.YtmnboiikopkaoaaGreat
