/- The document's own PutBlock. -/
import Derived.Test.YtmnboiikopkaoaaGreatBO
import Derived.Deep.RegionLaw
namespace Go.Proofs.YtmnboiikopkaoaaGreat
open Go.RowKit

theorem quietS {P : Program} {f : FuncId} {args : Array Value} {w : World} {n : Nat} {v : Value} (h : Calls P f args (w.drewN n) fun e w' => e = .returned v ∧ ∃ m, w' = (w.drewN n).drewN m) :
    Calls P f args (w.drewN n) fun e w' => e = .returned v ∧ ∃ m, w' = w.drewN m := h.mono fun _ _ ⟨h1, m, h2⟩ => ⟨h1, n + m, by rw [h2, drewN_addB]⟩
theorem bodyB_len (es : List Ent) (hsz : sizeEs es ≤ 800000) (ho : ∀ i, i < es.length → (entAt es i).s.toNat < 18446744073709551616 ∧ (entAt es i).n.toNat < 18446744073709551616) : ∀ k, k ≤ es.length → (bodyB es k).length ≤ 60 * k + sizeEs (es.take k)
  | 0, _ => by simp [bodyB]
  | k + 1, h => by
    have ih := bodyB_len es hsz ho k (by omega)
    have hk : k < es.length := by omega
    have h1 := sizeEs_take es k hk
    have h2 := sizeE_le es k hk
    have h3 := entAt_get hk
    have h4 : shN es k ≤ 1000000 := by
      unfold shN
      split
      · omega
      · have := shr_le2 (entAt es (k - 1)).k.data.toList (entAt es k).k.data.toList
        rw [len_data', h3] at this
        unfold sizeE at h2
        rw [h3]
        omega
    have h5 := entB_len (shN es k) (entAt es k) (by rw [h3]; omega) h4 (ho k hk).1 (ho k hk).2
    show (bodyB es k ++ entB (shN es k) (entAt es k)).length ≤ _
    rw [List.length_append, h1, h3]
    rw [h3] at h5
    omega
theorem tailB_len (es : List Ent) : ∀ k, (tailB es k).length ≤ 4 * k
  | 0 => by simp [tailB]
  | k + 1 => by
    have ih := tailB_len es k
    show (if k % 4 = 0 then tailB es k ++ be (bodyB es k).length 4 else tailB es k).length ≤ _
    split
    · rw [List.length_append, be_length]; omega
    · omega
theorem src_strB (s : ByteArray) (w : World) : Src Tryz.prog 1 9 (.string s) s.size (Lib.byteCells s.data.toList) w := Src.ofString (P := Tryz.prog) (w := w) Tryz.underlying9 s
/-- What is held through the parts of a version: the bytes so far, the version's cells. -/
structure GB (wc : World) (b o : Nat) (K : ByteArray) (sq nn : Nat) (U : ByteArray) (V : Value) (acc : List UInt8) (W : World) : Prop where
  row : Row W 5 1 V acc.length (Lib.byteCells acc)
  q : W.cell? ⟨b, o, none⟩ = some (.string K) ∧ W.cell? ⟨b, o + 1, none⟩ = some (.int .u64 (sq : Int)) ∧ W.cell? ⟨b, o + 2, none⟩ = some (.int .i64 (nn : Int)) ∧ W.cell? ⟨b, o + 3, none⟩ = some (.string U)
  bel : Below wc.heap.size wc W
section
variable {wc : World} {b o : Nat} {K : ByteArray} {sq nn : Nat} {U : ByteArray} {V : Value} {acc : List UInt8} {W W' : World}
theorem GB.below (h : GB wc b o K sq nn U V acc W) (hb : Below W.heap.size W W') : GB wc b o K sq nn U V acc W' :=
  ⟨h.row.kept fun k hk => hb.block k (h.row.lt k hk), ⟨kkB hb h.q.1, kkB hb h.q.2.1, kkB hb h.q.2.2.1, kkB hb h.q.2.2.2⟩, h.bel.trans (hb.mono h.bel.size)⟩
theorem GB.alloc (h : GB wc b o K sq nn U V acc W) (x : Obj) : GB wc b o K sq nn U V acc (W.alloc x) := h.below ((Below.refl _ _).alloc (Nat.le_refl _) x)
theorem GB.drew (h : GB wc b o K sq nn U V acc W) : GB wc b o K sq nn U V acc W.drew := h.below (belowN (Below.refl _ _) 1)
end
theorem conv_rowB {w : World} {v : Value} {l : List UInt8} (h : Row w 5 1 v l.length (Lib.byteCells l)) : (convert 78 9 v).run Tryz.prog w = .ok (.string ⟨l.toArray⟩) w := by
  rcases h.2 with ⟨h0, rfl | ⟨b, o, rfl⟩⟩ | ⟨g, cap, cur, e, h1, h2, h3, h4, h5⟩
  · have hl : l = [] := List.eq_nil_of_length_eq_zero h0
    subst hl
    exact Lib.run_convert_nil_bytes w 78 9 5 0 Tryz.underlying78 Tryz.underlying5 Tryz.underlying9
  · have hl : l = [] := List.eq_nil_of_length_eq_zero h0
    subst hl
    exact run_convert_bytes_back (P := Tryz.prog) w 78 9 5 ⟨b, o, none⟩ 0 [] Tryz.underlying78 Tryz.underlying5 Tryz.underlying9 (fun j hj => by simp at hj)
  · exact conv_own (B := 0) ⟨h.1, .inr ⟨g, cap + 1, cur, e, Nat.zero_le _, h1, h2, h3, h4, h5⟩⟩ rfl
theorem drcB {W : World} {p : Addr} {v : Value} (h : W.cell? p = some v) : W.drew.cell? p = some v := h
theorem nlist0 {W : World} {x y : Int} {t : TypeId} {n : Nat} (hn : n = W.heap.size) : (W.alloc (.cells #[.int .u64 x, .int .u64 y] t)).cell? ⟨n, 0, none⟩ = some (.int .u64 x) := by
  subst hn
  exact nce rfl rfl
theorem nlist1 {W : World} {x y : Int} {t : TypeId} {n : Nat} (hn : n = W.heap.size) : (W.alloc (.cells #[.int .u64 x, .int .u64 y] t)).cell? ⟨n, 1, none⟩ = some (.int .u64 y) := by
  subst hn
  exact nce rfl rfl
theorem entB_eq (sh : Nat) (K : ByteArray) (sq nn : Nat) (U K2 : ByteArray) (h2 : K2.data.toList = K.data.toList.drop sh) (hs : K2.size = K.size - sh) : entB sh ⟨K, (sq : Int), (nn : Int), U⟩ = Lib.uvarint sh ++ (Lib.uvarint K2.size ++ K2.data.toList) ++ vars [sq, nn] ++ (Lib.uvarint U.size ++ U.data.toList) := by
  unfold entB
  rw [h2, hs]
  simp
/-- What PutBlock tells. -/
def putBV (es : List Ent) : Value := if ordB es es.length then .tuple #[.string ⟨(blkB es).toArray⟩, .int .i64 0] else .tuple #[.string ⟨#[]⟩, .int .i64 1]
end Go.Proofs.YtmnboiikopkaoaaGreat
