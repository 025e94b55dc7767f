/- wal: writes in memory, and a batch's bytes, plain. -/
import Derived.Test.YthaalhigmihijabMN
import Derived.Test.YthaalhigmihijabFR
namespace Go.Proofs.Ythaalhigmihijab
open Go.RowKit

structure Wr where
  k : ByteArray
  v : ByteArray
  d : Bool
def Wr.zero : Wr := ⟨⟨#[]⟩, ⟨#[]⟩, false⟩
def Wr.Ok (x : Wr) : Prop := x.k.size ≤ maxLen ∧ x.v.size ≤ maxLen
def Wr.cells (e : Wr) : List Value := [.string e.k, .string e.v, .bool e.d]
/-- A slice of writes: there are none, or they lie in one block. -/
def WrsAt (n₀ : Nat) (w : World) (a : Option Addr) (len : Nat) (es : List Wr) : Prop :=
  es.length = len ∧ (len = 0 ∨ ∃ b off, a = some ⟨b, off, none⟩ ∧ b < n₀ ∧ ∀ i (h : i < es.length), ∀ j u, es[i].cells[j]? = some u → w.cell? ⟨b, off + i * 3 + j, none⟩ = some u)
theorem WrsAt.below {n₀ : Nat} {A B : World} {a : Option Addr} {len : Nat} {es : List Wr} (h : WrsAt n₀ A a len es) (hb : Below n₀ A B) : WrsAt n₀ B a len es := by
  refine ⟨h.1, ?_⟩
  rcases h.2 with h0 | ⟨b, off, e, hlt, hc⟩
  · exact .inl h0
  · exact .inr ⟨b, off, e, hlt, fun i hi j u hu => (hb.cell (p := ⟨b, off + i * 3 + j, none⟩) hlt).trans (hc i hi j u hu)⟩
theorem WrsAt.mono {n₀ n₁ : Nat} {w : World} {a : Option Addr} {len : Nat} {es : List Wr} (h : WrsAt n₀ w a len es) (hn : n₀ ≤ n₁) : WrsAt n₁ w a len es := by
  refine ⟨h.1, ?_⟩
  rcases h.2 with h0 | ⟨b, off, e, hlt, hc⟩
  · exact .inl h0
  · exact .inr ⟨b, off, e, Nat.lt_of_lt_of_le hlt hn, hc⟩
theorem WrsAt.grown {w w' : World} {a : Option Addr} {len : Nat} {es : List Wr} (h : WrsAt w.heap.size w a len es) (hb : Below w.heap.size w w') : WrsAt w'.heap.size w' a len es := (h.below hb).mono hb.size
/-- May a write be in a batch? -/
def wrOk (x : Wr) : Bool := decide (x.k.size ≤ 300) && decide (x.v.size ≤ 60000) && !(x.d && decide (x.v.size ≠ 0))
def wrsOk (ws : List Wr) : Bool := ws.all wrOk && !ws.isEmpty
/-- The bytes of a write, and of a batch. -/
def putW (x : Wr) : List UInt8 := (if x.d then [1] else [0]) ++ ntexts [x.k, x.v]
def putWs (ws : List Wr) : List UInt8 := (ws.map putW).flatten
def putB (first : Nat) (ws : List Wr) : List UInt8 := vars [first, ws.length] ++ putWs ws
def sizeW (x : Wr) : Nat := x.k.size + x.v.size
def sizeWs (ws : List Wr) : Nat := (ws.map sizeW).sum
theorem putWs_snoc (ws : List Wr) (x : Wr) : putWs (ws ++ [x]) = putWs ws ++ putW x := by simp [putWs]
theorem sizeWs_snoc (ws : List Wr) (x : Wr) : sizeWs (ws ++ [x]) = sizeWs ws + sizeW x := by simp [sizeWs]
theorem putW_length (x : Wr) (h : sizeW x ≤ 10000000) : (putW x).length ≤ 21 + sizeW x := by
  have h1 := Lib.uvarint_length64 (x := x.k.size) (by unfold sizeW at h; omega)
  have h2 := Lib.uvarint_length64 (x := x.v.size) (by unfold sizeW at h; omega)
  have e : (putW x).length = 1 + ((Lib.uvarint x.k.size).length + x.k.data.toList.length + ((Lib.uvarint x.v.size).length + x.v.data.toList.length)) := by
    unfold putW ntexts
    cases x.d <;> simp <;> omega
  rw [e, len_data', len_data']
  unfold sizeW
  omega
theorem putWs_length : ∀ (ws : List Wr), sizeWs ws ≤ 10000000 → (putWs ws).length ≤ 21 * ws.length + sizeWs ws
  | [], _ => by simp [putWs]
  | x :: ws, h => by
    have e : sizeWs (x :: ws) = sizeW x + sizeWs ws := by simp [sizeWs]
    have h1 := putW_length x (by omega)
    have h2 := putWs_length ws (by omega)
    have e2 : (putWs (x :: ws)).length = (putW x).length + (putWs ws).length := by simp [putWs]
    rw [e2, e, List.length_cons]
    omega
theorem sizeWs_take (ws : List Wr) (k : Nat) : sizeWs (ws.take k) ≤ sizeWs ws := by
  have : ws = ws.take k ++ ws.drop k := (List.take_append_drop k ws).symm
  have e : sizeWs (ws.take k ++ ws.drop k) = sizeWs (ws.take k) + sizeWs (ws.drop k) := by
    unfold sizeWs
    rw [List.map_append, List.sum_append]
  rw [← this] at e
  omega
theorem take_snoc_w (ws : List Wr) (k : Nat) (h : k < ws.length) : ws.take (k + 1) = ws.take k ++ [ws[k]] := by
  rw [List.take_add_one, List.getElem?_eq_getElem h]; rfl
theorem sizeW_le (ws : List Wr) (k : Nat) (h : k < ws.length) : sizeW ws[k] ≤ sizeWs ws := by
  have h1 := sizeWs_take ws (k + 1)
  rw [take_snoc_w ws k h, sizeWs_snoc] at h1
  omega
theorem wrOk_sizes {x : Wr} (h : wrOk x = true) : x.k.size ≤ 300 ∧ x.v.size ≤ 60000 := by
  unfold wrOk at h
  simp at h
  omega
theorem sizeWs_ok : ∀ ws : List Wr, (∀ x ∈ ws, wrOk x = true) → sizeWs ws ≤ ws.length * 60300
  | [], _ => by simp [sizeWs]
  | x :: ws, h => by
    have h1 := sizeWs_ok ws (fun y hy => h y (List.mem_cons_of_mem _ hy))
    have h2 := wrOk_sizes (h x (by simp))
    have e : sizeWs (x :: ws) = sizeW x + sizeWs ws := by simp [sizeWs]
    rw [e, List.length_cons, Nat.add_mul]
    unfold sizeW
    omega
theorem wrsOk_all {ws : List Wr} (h : wrsOk ws = true) : ∀ x ∈ ws, wrOk x = true := by
  unfold wrsOk at h
  rw [Bool.and_eq_true] at h
  exact List.all_eq_true.1 h.1
theorem wrsOk_pos {ws : List Wr} (h : wrsOk ws = true) : 1 ≤ ws.length := by
  unfold wrsOk at h
  cases ws with
  | nil => simp at h
  | cons x l => simp
end Go.Proofs.Ythaalhigmihijab
