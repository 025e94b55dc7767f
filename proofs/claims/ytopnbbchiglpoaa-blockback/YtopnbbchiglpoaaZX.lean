/- The program: what slices.DeleteFunc does for block.Seek. -/
import Derived.Test.YtopnbbchiglpoaaZV
import Derived.Test.YtopnbbchiglpoaaBW
namespace Go.Proofs.Ytopnbbchiglpoaa
open Go.RowKit

theorem less_cb : ∀ a b : List UInt8, Op.bytesLess a b = decide (Lib.compareBytes a b = -1)
  | [], [] => rfl
  | [], _ :: _ => rfl
  | _ :: _, [] => rfl
  | a :: l, b :: r => by
    unfold Op.bytesLess Lib.compareBytes
    by_cases h1 : a < b
    · simp [h1]
    · by_cases h2 : b < a
      · have h3 : ¬ a = b := fun e => by subst e; exact h1 h2
        simp [h1, h2, h3]
      · have h3 : a = b := UInt8.le_antisymm (UInt8.not_lt.1 h2) (UInt8.not_lt.1 h1)
        rw [less_cb l r]
        simp [h3]
theorem inRange_all (lo : ByteArray) (e : Ent) : inRange lo ⟨#[]⟩ e = !(lessB e.k lo) := by
  unfold inRange
  have : (⟨#[]⟩ : ByteArray).toList.isEmpty = true := by rw [ByteArray.toList_eq]; rfl
  rw [this]
  simp
theorem less_cbP (a b : ByteArray) : Op.bytesLess a.toList b.toList = lessB a b := by
  rw [ByteArray.toList_eq, ByteArray.toList_eq]
  exact less_cb _ _
/-- The function that Seek hands on: is a version's key below? -/
theorem belowKey_any (x : Ent) (X : Nat) (key : ByteArray) (w : World) (hk : w.cell? ⟨X, 0, none⟩ = some (.string key)) :
    Calls Try.prog 20 #[.agg #[.string x.k, .int .u64 x.s, .int .i64 x.n, .string x.v], .pointer (some ⟨X, 0, none⟩)] w fun e w' => e = .returned (.bool (lessB x.k key)) ∧ Below w.heap.size w w' := by
  have hlt := World.block_lt_of_cell? w _ hk
  have hB : Below w.heap.size w (w.alloc (.cells #[.string x.k, .int .u64 x.s, .int .i64 x.n, .string x.v] 34)) := (Below.refl _ _).alloc (Nat.le_refl _) _
  have hk2 : (w.alloc (.cells #[.string x.k, .int .u64 x.s, .int .i64 x.n, .string x.v] 34)).cell? ⟨X, 0, none⟩ = some (.string key) := oce hlt hk
  have HL := Lib.hid (less_cbP x.k key)
  go_enter Try.func20, Try.ntmps20
  go_wp2
  go_ret
  exact ⟨by rw [← HL.out]; rfl, hB⟩
set_option maxHeartbeats 4000000 in
set_option maxRecDepth 100000 in
theorem idxFunc_any {w : World} (a : Option Addr) (len cap : Nat) (es : List Ent) (hE : EntsAt w.heap.size w a len es) (hlm : len ≤ 1000000) (X : Nat) (key : ByteArray) (hk : w.cell? ⟨X, 0, none⟩ = some (.string key)) :
    Calls Try.prog 39 #[.slice a len cap, .func (.func 20) #[] #[.pointer (some ⟨X, 0, none⟩)]] w fun e w' => ∃ r : Int, e = .returned (.int .i64 r) ∧ Hid ((r = -1 ∧ ∀ x ∈ es, lessB x.k key = false) ∨ ∃ k : Nat, k < len ∧ r = (k : Int) ∧ lessB (entAt es k).k key = true ∧ ∀ x ∈ es.take k, lessB x.k key = false) ∧ Below w.heap.size w w' := by
  have hll : es.length = len := hE.1
  have HE := Lib.hid hE
  have hfn : ∀ (args : Array Value) (w : World), (callFunc 20 args).run Try.prog w = .ok (.enter 20 args) w := fun args w => by kernel_rfl
  have HK := Lib.hid (fun W (hb : Below w.heap.size w W) => (hb.cell (World.block_lt_of_cell? w _ hk)).trans hk)
  clear hE hk
  go_enter Try.func39, Try.ntmps39
  go_wp2
  go_loopw [8] (fun iv wr => ∃ i : Nat, iv = .int .i64 (i : Int) ∧ i ≤ len ∧ Hid (∀ x ∈ es.take i, lessB x.k key = false) ∧ Below w.heap.size w wr) (fun iv _ => len - (intOf iv).toNat)
  case atStart => exact ⟨0, rfl, Nat.zero_le _, Lib.hid (fun x hx => by simp at hx), Below.refl _ _⟩
  case round =>
    obtain ⟨i, rfl, hil, HNO, hbl⟩ := hrel
    have HBL := Lib.hid hbl
    by_cases hlt : i < len
    · obtain ⟨b, off, rfl, hc⟩ : ∃ b off, a = some ⟨b, off, none⟩ ∧ ∀ j u, (entAt es i).cells[j]? = some u → wr.cell? ⟨b, off + i * 4 + j, none⟩ = some u := by
        rcases (HE.out.below hbl).2 with h0 | ⟨b, off, e, h1, h2⟩
        · omega
        · refine ⟨b, off, e, ?_⟩
          rw [entAt_get (show i < es.length by omega)]
          exact h2 i (by omega)
      have hilI : (i : Int) < (len : Int) := by omega
      have HTK := Lib.hid (show ∀ x ∈ es.take (i + 1), x ∈ es.take i ∨ x = entAt es i from fun x hx => by
        rw [List.take_succ_eq_append_getElem (show i < es.length by omega), ← entAt_get (show i < es.length by omega)] at hx
        simpa using hx)
      obtain ⟨y, hy⟩ : ∃ y, entAt es i = y := ⟨_, rfl⟩
      rw [hy] at hc HTK
      have q0 : wr.cell? ⟨b, off + i * 4, none⟩ = some (.string y.k) := hc 0 _ rfl
      have q1 : wr.cell? ⟨b, off + i * 4 + 1, none⟩ = some (.int .u64 y.s) := hc 1 _ rfl
      have q2 : wr.cell? ⟨b, off + i * 4 + 2, none⟩ = some (.int .i64 y.n) := hc 2 _ rfl
      have q3 : wr.cell? ⟨b, off + i * 4 + 3, none⟩ = some (.string y.v) := hc 3 _ rfl
      have CB := Lib.hid (belowKey_any y X key wr (HK.out wr hbl))
      clear hc hbl
      cases hq : lessB y.k key with
      | false =>
        rw [hq] at CB
        go_wp2_with (go_at_call 20; (with_reducible refine CB.out.mono ?_); rintro _ w2 ⟨rfl, b2⟩)
        go_roundw
        case rel => exact ⟨i + 1, by go_num, by omega, Lib.hid (fun x hx => by
          rcases HTK.out x hx with h | h
          · exact HNO.out x h
          · rw [h]; exact hq), HBL.out.trans (b2.mono HBL.out.size)⟩
        case measure => simp [intOf]; omega
      | true =>
        rw [hq] at CB
        go_wp2_with (go_at_call 20; (with_reducible refine CB.out.mono ?_); rintro _ w2 ⟨rfl, b2⟩)
        go_ret
        exact ⟨(i : Int), rfl, Lib.hid (.inr ⟨i, hlt, rfl, by rw [hy]; exact hq, HNO.out⟩), HBL.out.trans (b2.mono HBL.out.size)⟩
    · obtain rfl : i = len := by omega
      have HNA := Lib.hid (show ∀ x ∈ es, lessB x.k key = false from fun x hx => HNO.out x (by rw [List.take_of_length_le (by omega)]; exact hx))
      go_wp2
      go_ret
      exact ⟨-1, rfl, Lib.hid (.inl ⟨rfl, HNA.out⟩), HBL.out⟩
end Go.Proofs.Ytopnbbchiglpoaa
