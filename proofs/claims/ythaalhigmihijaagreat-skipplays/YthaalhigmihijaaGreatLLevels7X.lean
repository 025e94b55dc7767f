/- Plain helpers of the walks. -/
import Derived.Test.YthaalhigmihijaaGreatYO
import Derived.Test.YthaalhigmihijaaGreatYS
namespace Go.Proofs.YthaalhigmihijaaGreat
open Go.RowKit

theorem Ent.Ok.nice7 {x : Ent} (h : x.Ok) : x.Nice := ⟨h.1, h.2.2.2.2.2, h.2.1, h.2.2.1⟩
theorem puts_len7 {W : World} {x : Ent} {l : Nat} {ns ns' : List Nd} {t : Bool} (h : Puts W x l ns t ns') : ns'.length ≤ ns.length + 1 := by
  rcases h with ⟨-, rfl, -⟩ | ⟨-, -, -, P, Q, a, hc, rfl, -⟩
  · omega
  · rw [hc.all]
    simp
    omega
theorem row_ents' {w : World} {v : Value} {l : List Ent} (h : Row w 32 4 v l.length (cellsE l)) : ∃ a cap, v = .slice a l.length cap ∧ EntsAt w.heap.size w a l.length l := row_ents h
theorem ents_keep {w w' : World} {a : Option Addr} {n : Nat} {l : List Ent} (h : EntsAt w.heap.size w a n l) (hb : Below w.heap.size w w') : EntsAt w.heap.size w' a n l := h.below hb
def entAt (l : List Ent) (i : Nat) : Ent := l.getD i Ent.zero
theorem entAt_eq {l : List Ent} {i : Nat} (h : i < l.length) : entAt l i = l[i] := by
  unfold entAt
  rw [List.getD_eq_getElem?_getD, List.getElem?_eq_getElem h]
  rfl
theorem rowS_keep7 {w w' : World} {a : Option Addr} {len : Nat} {ss : List ByteArray} (h : IsRowS w a len ss) (hb : Below w.heap.size w w') : IsRowS w' a len ss := by
  obtain ⟨h1, h2, h3⟩ := h
  refine ⟨h1, h2, h3.imp id ?_⟩
  rintro ⟨b, off, e, hlt, hc⟩
  exact ⟨b, off, e, Nat.lt_of_lt_of_le hlt hb.size, fun i hi => (hb.cell (p := ⟨b, off + i, none⟩) (lt_of_cell (hc i hi))).trans (hc i hi)⟩
theorem skp_zero (w : World) {B : Nat} (hB : B ≤ w.heap.size) : Skp B w.heap.size [] (w.alloc (.cells #[.string ⟨#[]⟩, .int .u64 0, .int .i64 0, .string ⟨#[]⟩, .pointer none, .pointer none, .pointer none, .pointer none, .pointer none, .pointer none, .pointer none, .pointer none, .int .i64 0] 38)) :=
  ⟨lst_new (new_block _ _ rfl), ⟨by simp, List.Pairwise.nil, by simp⟩, fun k hk => by simp [foot, hd] at hk; omega⟩
theorem row_below7 {w w' : World} {e : TypeId} {size : Nat} {v : Value} {n : Nat} {xs : List Value} (h : Row w e size v n xs) (hb : Below w.heap.size w w') : Row w' e size v n xs := h.kept (fun k hk => hb.block k (h.lt k hk))
theorem drewB7 (w : World) : Below w.heap.size w w.drew := ⟨rfl, rfl, rfl, Nat.le_refl _, fun _ _ => rfl⟩
end Go.Proofs.YthaalhigmihijaaGreat
