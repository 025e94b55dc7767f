/- Contracts of num.Var and num.Text on lists that came in: the bytes that they return, for lists of at most so many elements. -/
import Derived.Test.YtnkmchlldhdenaaDoorW10
import Derived.Lib.AppendStr
namespace Go.Proofs.YtnkmchlldhdenaaDoor
open Go.RowKit

set_option maxHeartbeats 1000000 in
theorem var_none (a : Option Addr) (cap : Nat) (w : World) :
    Calls Tryd.prog 20 #[.slice a 0 cap] w fun e w' => e = .returned (.string ⟨#[]⟩) ∧ Below w.heap.size w w' := by
  have hcv := Lib.run_convert_nil_bytes (P := Tryd.prog) w 60 9 5 0 Tryd.underlying60 Tryd.underlying5 Tryd.underlying9
  go_enter Tryd.func20, Tryd.ntmps20
  go_wp2
  refine wp_loop_rounds 1 ?_
  rw [rounds_succ]
  go_wp2
  go_ret
  exact ⟨rfl, Below.refl _ _⟩

theorem var_row (a : Option Addr) (len cap : Nat) (zs : List Nat) (w : World) (h : IsRowU w a len zs) (hlim : 10 * len + 10 ≤ 140737488355328) :
    Calls Tryd.prog 20 #[.slice a len cap] w fun e w' => e = .returned (.string ⟨(vars zs).toArray⟩) ∧ Below w.heap.size w w' := by
  obtain ⟨hl, hr, hrow⟩ := h
  rcases hrow with h0 | ⟨b, off, rfl, hb, hc⟩
  · subst h0
    have he : zs = [] := List.eq_nil_of_length_eq_zero hl
    subst he
    exact var_none a cap w
  · subst hl
    exact var_any b off cap zs w hr hlim hc hb

/-- The bytes of texts, each behind its length. -/
def texts (ss : List ByteArray) : List UInt8 := (ss.map fun s => Lib.uvarint s.size ++ s.data.toList).flatten
theorem texts_snoc (ss : List ByteArray) (s : ByteArray) : texts (ss ++ [s]) = texts ss ++ (Lib.uvarint s.size ++ s.data.toList) := by simp [texts]
theorem texts_length : ∀ (ss : List ByteArray), (∀ s ∈ ss, s.size ≤ maxLen) → (texts ss).length ≤ 10 * ss.length + total ss
  | [], _ => by simp [texts, total]
  | s :: r, h => by
    have hs := h s (by simp)
    unfold maxLen at hs
    have h1 := Lib.uvarint_length64 (x := s.size) (by omega)
    have h2 := texts_length r (fun x hx => h x (by simp [hx]))
    have h3 : s.data.toList.length = s.size := by rw [Array.length_toList]; rfl
    simp only [texts, total, List.map_cons, List.flatten_cons, List.length_append, List.length_cons, List.sum_cons] at *
    omega
theorem total_take (ss : List ByteArray) (k : Nat) (h : k < ss.length) : total (ss.take k) + ss[k].size ≤ total ss := by
  have h1 : ss = ss.take k ++ (ss[k] :: ss.drop (k + 1)) := by
    rw [← List.drop_eq_getElem_cons h, List.take_append_drop]
  have h2 := congrArg total h1
  unfold total at h2 ⊢
  rw [List.map_append, List.sum_append, List.map_cons, List.sum_cons] at h2
  omega
theorem len_data' (s : ByteArray) : s.data.toList.length = s.size := by rw [Array.length_toList]; rfl
theorem strCells_eq (s : ByteArray) : Lib.strCells s = Lib.byteCells s.data.toList := rfl

set_option maxHeartbeats 2000000 in
set_option maxRecDepth 100000 in
theorem text_any (b off cap : Nat) (ss : List ByteArray) (w : World) (hss : ∀ s ∈ ss, s.size ≤ maxLen) (hlim : 10 * ss.length + total ss + 10 ≤ 140737488355328)
    (hc : ∀ i (h : i < ss.length), w.cell? ⟨b, off + i, none⟩ = some (.string ss[i])) (hb : b < w.heap.size) :
    Calls Tryd.prog 22 #[.slice (some ⟨b, off, none⟩) ss.length cap] w fun e w' => e = .returned (.string ⟨(texts ss).toArray⟩) ∧ Below w.heap.size w w' := by
  obtain ⟨i0, hi, hz0, hz1, hz2⟩ := info_parts infoByte
  go_enter Tryd.func22, Tryd.ntmps22
  go_wp2
  go_loopw [3, 8] (fun vb i wr => ∃ k : Nat, k ≤ ss.length ∧ i = .int .i64 k ∧ wr.ownsRow w.heap.size 5 1 vb (texts (ss.take k)).length (Lib.byteCells (texts (ss.take k))) ∧ Below w.heap.size w wr)
    (fun _ i _ => ss.length - (intOf i).toNat)
  case atStart => exact ⟨0, Nat.zero_le _, rfl, by simpa [texts, Lib.byteCells] using World.ownsRow_nil w _ _ _, Below.refl _ _⟩
  case round =>
    obtain ⟨k, hk, rfl, hown, hnx⟩ := hrel
    by_cases hlt : k < ss.length
    · have hcx : wr.cell? ⟨b, off + k, none⟩ = some (.string ss[k]) := (hnx.cell (by exact hb)).trans (hc k hlt)
      have hl1 := texts_length (ss.take k) (fun z hz => hss z (List.mem_of_mem_take hz))
      have hl2 : (ss.take k).length ≤ k := List.length_take_le _ _
      have hl3 := total_take ss k hlt
      have hsz := hss ss[k] (List.getElem_mem hlt)
      unfold maxLen at hsz
      have hu := Lib.uvarint_length64 (x := ss[k].size) (by omega)
      have HT : Hid (ss.take (k + 1) = ss.take k ++ [ss[k]]) := List.take_succ_eq_append_getElem hlt
      have hb2 : (texts (ss.take k)).length + (Lib.uvarint ss[k].size).length + ss[k].size ≤ 140737488355328 := by omega
      have hb1 : (texts (ss.take k)).length + 10 ≤ 140737488355328 := by omega
      have hsz2 : ss[k].size < 18446744073709551616 := by omega
      have hsz3 : (ss[k].size : Int) ≤ 9223372036854775807 := by omega
      have HS : Hid (ss[k].size < 18446744073709551616) := hsz2
      clear hl1 hl2 hl3 hsz hsz2 hu
      go_wp2_with (first | (go_at_call 49; refine (appendVar_any w.heap.size _ ss[k].size HS.out _ _ wr hown hnx.size hb1).mono ?_; rintro e w1 ⟨v', rfl, hown', hnx'⟩) | (at_builtin; refine Lib.wpList_append_own_string _ rfl _ _ 60 9 rfl w.heap.size 5 i0 Tryd.underlying60 Tryd.underlying9 hi hz0 hz1 hz2 _ _ _ rfl hown' _ rfl ?c1 ?c2 ?c3 ?_))
      case c1 => unfold maxLen; omega
      case c2 => omega
      case c3 => exact (hnx.trans hnx').size
      intro v'' w2 hown2 hgrow2 _
      have hnx2 : Below w.heap.size w w2 := (hnx.trans hnx').grown hgrow2 (hnx.trans hnx').size (fun j hj => (hown'.lt j hj).1)
      clear hown hown' hgrow2
      go_wp2
      go_roundw
      case rel =>
        refine ⟨k + 1, by omega, by go_num, ?_, hnx2⟩
        rw [HT.out, texts_snoc, List.length_append, List.length_append, Lib.byteCells_append, Lib.byteCells_append, len_data', ← Nat.add_assoc]
        exact hown2
      case measure => simp [intOf]; omega
    · have hke : k = ss.length := by omega
      have hcv := conv_own hown rfl
      go_wp2
      go_ret
      refine ⟨?_, hnx⟩
      subst hke
      simp

set_option maxHeartbeats 1000000 in
theorem text_none (a : Option Addr) (cap : Nat) (w : World) :
    Calls Tryd.prog 22 #[.slice a 0 cap] w fun e w' => e = .returned (.string ⟨#[]⟩) ∧ Below w.heap.size w w' := by
  have hcv := Lib.run_convert_nil_bytes (P := Tryd.prog) w 60 9 5 0 Tryd.underlying60 Tryd.underlying5 Tryd.underlying9
  go_enter Tryd.func22, Tryd.ntmps22
  go_wp2
  refine wp_loop_rounds 1 ?_
  rw [rounds_succ]
  go_wp2
  go_ret
  exact ⟨rfl, Below.refl _ _⟩
theorem text_row (a : Option Addr) (len cap : Nat) (ss : List ByteArray) (w : World) (h : IsRowS w a len ss) (hlim : 10 * len + total ss + 10 ≤ 140737488355328) :
    Calls Tryd.prog 22 #[.slice a len cap] w fun e w' => e = .returned (.string ⟨(texts ss).toArray⟩) ∧ Below w.heap.size w w' := by
  obtain ⟨hl, hr, hrow⟩ := h
  rcases hrow with h0 | ⟨b, off, rfl, hb, hc⟩
  · subst h0
    have he : ss = [] := List.eq_nil_of_length_eq_zero hl
    subst he
    exact text_none a cap w
  · subst hl
    exact text_any b off cap ss w hr hlim hc hb
end Go.Proofs.YtnkmchlldhdenaaDoor
