/- The program: block.lay. -/
import Derived.Test.YtopnbbchiglpoaaZU
namespace Go.Proofs.Ytopnbbchiglpoaa
open Go.RowKit

theorem varP1 (x : Nat) (hx : x < 18446744073709551616) (W : World) : Calls Try.prog 30 #[.slice (some ⟨W.heap.size, 0, none⟩) 1 1] (W.alloc (.cells #[.int .u64 (x : Int)] 32)) fun e w' => e = .returned (.string ⟨(Lib.uvarint x).toArray⟩) ∧ Below W.heap.size W w' := by
  have h := var_any W.heap.size 0 1 [x] (W.alloc (.cells #[.int .u64 (x : Int)] 32)) (by simpa using hx) (by simp) (fun i hi => by
    match i, hi with
    | 0, _ => exact nce rfl rfl) (by simp)
  rw [show vars [x] = Lib.uvarint x by simp [vars]] at h
  exact h.mono fun e w' ⟨h1, h2⟩ => ⟨h1, ((Below.refl _ _).alloc (Nat.le_refl _) _).trans (h2.mono (by simp))⟩
theorem varP2 (x y : Nat) (hx : x < 18446744073709551616) (hy : y < 18446744073709551616) (W : World) : Calls Try.prog 30 #[.slice (some ⟨W.heap.size, 0, none⟩) 2 2] (W.alloc (.cells #[.int .u64 (x : Int), .int .u64 (y : Int)] 32)) fun e w' => e = .returned (.string ⟨(vars [x, y]).toArray⟩) ∧ Below W.heap.size W w' := by
  have h := var_any W.heap.size 0 2 [x, y] (W.alloc (.cells #[.int .u64 (x : Int), .int .u64 (y : Int)] 32)) (fun z hz => by simp at hz; omega) (by simp) (fun i hi => by
    match i, hi with
    | 0, _ => exact nce rfl rfl
    | 1, _ => exact nce rfl rfl) (by simp)
  exact h.mono fun e w' ⟨h1, h2⟩ => ⟨h1, ((Below.refl _ _).alloc (Nat.le_refl _) _).trans (h2.mono (by simp))⟩
theorem textP1 (s : ByteArray) (hs : s.size ≤ 1000000) (W : World) : Calls Try.prog 31 #[.slice (some ⟨W.heap.size, 0, none⟩) 1 1] (W.alloc (.cells #[.string s] 9)) fun e w' => e = .returned (.string ⟨(Lib.uvarint s.size ++ s.data.toList).toArray⟩) ∧ Below W.heap.size W w' := by
  have h := text_any W.heap.size 0 1 [s] (W.alloc (.cells #[.string s] 9)) (fun z hz => by simp at hz; subst hz; unfold maxLen; omega) (by simp [ntotal]; omega) (fun i hi => by
    match i, hi with
    | 0, _ => exact nce rfl rfl) (by simp)
  rw [show ntexts [s] = Lib.uvarint s.size ++ s.data.toList by simp [ntexts]] at h
  exact h.mono fun e w' ⟨h1, h2⟩ => ⟨h1, ((Below.refl _ _).alloc (Nat.le_refl _) _).trans (h2.mono (by simp))⟩
/-- Two rows of bytes of a call's own, apart, and blocks below as they were. -/
structure LayS (w : World) (V T : Value) (bs ts : List UInt8) (W : World) : Prop where
  rv : Row W 5 1 V bs.length (Lib.byteCells bs)
  rt : Row W 5 1 T ts.length (Lib.byteCells ts)
  ov : ∀ k, ob V = some k → w.heap.size ≤ k
  ot : ∀ k, ob T = some k → w.heap.size ≤ k
  ne : ∀ k, ob V = some k → ob T ≠ some k
  bel : Below w.heap.size w W
section
variable {w : World} {V T v' : Value} {bs ts cs : List UInt8} {W W' : World}
theorem LayS.below (h : LayS w V T bs ts W) (hb : Below W.heap.size W W') : LayS w V T bs ts W' :=
  ⟨row_below h.rv hb, row_below h.rt hb, h.ov, h.ot, h.ne, h.bel.trans (hb.mono h.bel.size)⟩
theorem LayS.addV (h : LayS w V T bs ts W) (hr : Row W' 5 1 v' (bs.length + cs.length) (Lib.byteCells bs ++ Lib.byteCells cs)) (hg : W.grownBy W' (ob V)) (ho : ob v' = ob V ∨ ∃ g, ob v' = some g ∧ W.heap.size ≤ g) : LayS w v' T (bs ++ cs) ts W' := by
  refine ⟨?_, ?_, ?_, h.ot, ?_, below_row h.bel (Nat.le_refl _) hg h.ov⟩
  · rw [List.length_append, Lib.byteCells_append]; exact hr
  · exact h.rt.kept fun k hk => hg.block k (h.rt.lt k hk) (fun e => h.ne k e.symm hk)
  · intro k hk
    rcases ho with e | ⟨g, e, hge⟩
    · exact h.ov k (by rw [← e]; exact hk)
    · rw [e] at hk; cases hk; exact Nat.le_trans h.bel.size hge
  · intro k hk hT
    rcases ho with e | ⟨g, e, hge⟩
    · exact h.ne k (by rw [← e]; exact hk) hT
    · rw [e] at hk; cases hk
      have := h.rt.lt _ hT
      omega
theorem LayS.addT (h : LayS w V T bs ts W) (hr : Row W' 5 1 v' (ts.length + cs.length) (Lib.byteCells ts ++ Lib.byteCells cs)) (hg : W.grownBy W' (ob T)) (ho : ob v' = ob T ∨ ∃ g, ob v' = some g ∧ W.heap.size ≤ g) : LayS w V v' bs (ts ++ cs) W' := by
  refine ⟨?_, ?_, h.ov, ?_, ?_, below_row h.bel (Nat.le_refl _) hg h.ot⟩
  · exact h.rv.kept fun k hk => hg.block k (h.rv.lt k hk) (fun e => h.ne k hk e.symm)
  · rw [List.length_append, Lib.byteCells_append]; exact hr
  · intro k hk
    rcases ho with e | ⟨g, e, hge⟩
    · exact h.ot k (by rw [← e]; exact hk)
    · rw [e] at hk; cases hk; exact Nat.le_trans h.bel.size hge
  · intro k hk hT
    rcases ho with e | ⟨g, e, hge⟩
    · exact h.ne k hk (by rw [← e]; exact hT)
    · rw [e] at hT; cases hT
      have := h.rv.lt _ hk
      omega
end
/-- The same beside a version in a box. -/
structure LayX (w : World) (X : Nat) (x : Ent) (V T : Value) (bs ts : List UInt8) (W : World) : Prop where
  s : LayS w V T bs ts W
  box : Boxe X x.k x.s x.n x.v W
  nv : ob V ≠ some X
  nt : ob T ≠ some X
section
variable {w : World} {X : Nat} {x : Ent} {V T v' : Value} {bs ts cs : List UInt8} {W W' : World}
theorem LayX.new (h : LayS w V T bs ts W) (x : Ent) (hW : W.alloc (.cells #[.string x.k, .int .u64 x.s, .int .i64 x.n, .string x.v] 34) = W') : LayX w W.heap.size x V T bs ts W' := by
  refine ⟨h.below (by rw [← hW]; exact (Below.refl _ _).alloc (Nat.le_refl _) _), by rw [← hW]; exact new_block _ _ rfl, fun e => ?_, fun e => ?_⟩
  · have := h.rv.lt _ e; omega
  · have := h.rt.lt _ e; omega
theorem LayX.below (h : LayX w X x V T bs ts W) (hb : Below W.heap.size W W') : LayX w X x V T bs ts W' := ⟨h.s.below hb, h.box.below hb, h.nv, h.nt⟩
theorem LayX.addV (h : LayX w X x V T bs ts W) (hr : Row W' 5 1 v' (bs.length + cs.length) (Lib.byteCells bs ++ Lib.byteCells cs)) (hg : W.grownBy W' (ob V)) (ho : ob v' = ob V ∨ ∃ g, ob v' = some g ∧ W.heap.size ≤ g) : LayX w X x v' T (bs ++ cs) ts W' := by
  refine ⟨h.s.addV hr hg ho, (hg.block X h.box.lt (fun e => h.nv e.symm)).trans h.box, fun e => ?_, h.nt⟩
  rcases ho with e1 | ⟨g, e1, hge⟩
  · exact h.nv (by rw [← e1]; exact e)
  · rw [e1] at e; cases e
    have := h.box.lt
    omega
theorem LayX.addT (h : LayX w X x V T bs ts W) (hr : Row W' 5 1 v' (ts.length + cs.length) (Lib.byteCells ts ++ Lib.byteCells cs)) (hg : W.grownBy W' (ob T)) (ho : ob v' = ob T ∨ ∃ g, ob v' = some g ∧ W.heap.size ≤ g) : LayX w X x V v' bs (ts ++ cs) W' := by
  refine ⟨h.s.addT hr hg ho, (hg.block X h.box.lt (fun e => h.nt e.symm)).trans h.box, h.nv, fun e => ?_⟩
  rcases ho with e1 | ⟨g, e1, hge⟩
  · exact h.nt (by rw [← e1]; exact e)
  · rw [e1] at e; cases e
    have := h.box.lt
    omega
end
/-- A row of bytes as what is appended. -/
theorem row_src {w : World} {v : Value} {l : List UInt8} (h : Row w 5 1 v l.length (Lib.byteCells l)) : Src Try.prog 1 36 v l.length (Lib.byteCells l) w := by
  have hone : ∀ u ∈ Lib.byteCells l, u.oneCell' = true := fun u hu => by
    obtain ⟨_, _, rfl⟩ := List.mem_map.1 hu
    rfl
  have hc := h.cell
  rcases h.2 with ⟨h0, rfl | ⟨b, o, rfl⟩⟩ | ⟨g, cap, cur, e, -⟩
  · have hl : l = [] := List.eq_nil_of_length_eq_zero h0
    subst hl
    exact Src.ofNil (P := Try.prog) w Try.underlying36 0
  · have hl : l = [] := List.eq_nil_of_length_eq_zero h0
    subst hl
    exact Src.ofSlice (P := Try.prog) w Try.underlying36 ⟨b, o, none⟩ 0 0 _ rfl (fun j u hu => by cases hu) hone
  · subst e
    refine Src.ofSlice (P := Try.prog) w Try.underlying36 ⟨g, 0, none⟩ l.length (cap + 1) _ (by simp [Lib.byteCells]) (fun j u hu => ?_) hone
    have := hc g 0 _ rfl j u hu
    rw [addrJ]
    rwa [Nat.zero_add] at this
theorem bodyP_len (es : List Ent) (hv : ∀ i, i < es.length → sizeE (entAt es i) ≤ 100000) (ho : ∀ i, i < es.length → (entAt es i).s.toNat < 18446744073709551616 ∧ (entAt es i).n.toNat < 18446744073709551616) : ∀ k, k ≤ es.length → (bodyB es k).length ≤ 60 * k + sizeEs (es.take k)
  | 0, _ => by simp [bodyB]
  | k + 1, h => by
    have ih := bodyP_len es hv ho k (by omega)
    have hk : k < es.length := by omega
    have h1 := sizeEs_take es k hk
    have h2 := hv k hk
    have h3 := entAt_get hk
    have h4 : shN es k ≤ 1000000 := by
      unfold shN
      split
      · omega
      · have := shr_le2 (entAt es (k - 1)).k.data.toList (entAt es k).k.data.toList
        rw [len_data'] at this
        unfold sizeE at h2
        omega
    have h5 := entB_len (shN es k) (entAt es k) (by omega) h4 (ho k hk).1 (ho k hk).2
    show (bodyB es k ++ entB (shN es k) (entAt es k)).length ≤ _
    rw [List.length_append, h1]
    rw [h3] at h5 ⊢
    omega
end Go.Proofs.Ytopnbbchiglpoaa
