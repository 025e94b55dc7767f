/- Lists in memory as they are read and as they are owned; the statements' Book: the text of a mark. -/
import Derived.Test.YtfndlfnlepndmaaGreatO0
import Derived.WalkKit
import Derived.OwnWalk
import Derived.WalkSpells
import Derived.WalkLawsBesides
import Derived.BigCall
import Derived.Laws.IdiomStrings
import Derived.Laws.BitsAllLaws
import Derived.Lib.Slices
import Derived.Outline
import Derived.Lib.BufferRead
import Derived.Lib.Hide
import Derived.BigQuiet
import Derived.Deep.QuietTactic
import Derived.Deep.RegionHeld3
import Derived.Laws.AppendOwnNone
namespace Go.Proofs.YtfndlfnlepndmaaGreat
open Go.RowKit

theorem drewN_add' (w : World) (a b : Nat) : (w.drewN a).drewN b = w.drewN (a + b) := by
  show World.mk _ _ _ _ _ = _
  first | rfl | (simp [World.drewN, Nat.add_assoc])
theorem drew_below' (w : World) (n : Nat) : Below w.heap.size w (w.drewN n) := ⟨rfl, rfl, rfl, Nat.le_refl _, fun _ _ => rfl⟩
theorem addr_at (b o j : Nat) : (⟨b, o, none⟩ : Addr).add j = ⟨b, o + j, none⟩ := by unfold Addr.add; split <;> simp_all

theorem block_lt' {w : World} {a : Addr} {v : Value} (h : w.cell? a = some v) : a.block < w.heap.size := by
  rcases Nat.lt_or_ge a.block w.heap.size with h1 | h1
  · exact h1
  · simp [World.cell?, Array.getElem?_eq_none h1] at h
theorem quiet_drew {P : Program} {f : FuncId} {args : Array Value} {w : World} {n : Nat} {v : Value} (h : Calls P f args (w.drewN n) fun e w' => e = .returned v ∧ ∃ m, w' = (w.drewN n).drewN m) :
    Calls P f args (w.drewN n) fun e w'' => e = .returned v ∧ ∃ m, w'' = w.drewN m := h.mono fun _ _ ⟨he, m, hm⟩ => ⟨he, n + m, by rw [hm, drewN_add']⟩
theorem quiet_drew2 {P : Program} {f : FuncId} {args : Array Value} {w : World} {v : Value} (nd x : Nat) (h : Calls P f args (w.drewN (nd + x)) fun e w' => e = .returned v ∧ ∃ m, w' = (w.drewN (nd + x)).drewN m) :
    Calls P f args (w.drewN (nd + x)) fun e w'' => e = .returned v ∧ ∃ n, w'' = w.drewN (nd + n) := h.mono fun _ _ ⟨he, m, hm⟩ => ⟨he, x + m, by rw [hm, drewN_add', Nat.add_assoc]⟩
/-- A slice of n elements that reads as these cells. -/
def Rd (w : World) (v : Value) (n : Nat) (xs : List Value) : Prop :=
  ∃ a cap, v = .slice a n cap ∧ (n = 0 ∨ ∃ b off, a = some ⟨b, off, none⟩ ∧ b < w.heap.size ∧ ∀ j u, xs[j]? = some u → w.cell? ⟨b, off + j, none⟩ = some u)
theorem Rd.below {w w' : World} {v : Value} {n : Nat} {xs : List Value} (h : Rd w v n xs) (hb : Below w.heap.size w w') : Rd w' v n xs := by
  obtain ⟨a, cap, rfl, h⟩ := h
  refine ⟨a, cap, rfl, h.imp id ?_⟩
  rintro ⟨b, off, rfl, hl, hc⟩
  exact ⟨b, off, rfl, Nat.lt_of_lt_of_le hl hb.size, fun j u hj => (hb.cell (p := ⟨b, off + j, none⟩) hl).trans (hc j u hj)⟩
theorem Rd.belowAt {B : Nat} {w w' : World} {v : Value} {n : Nat} {xs : List Value} (h : Rd w v n xs) (hB : w.heap.size ≤ B) {w1 : World} (hs : Below w.heap.size w w1) (hb : Below B w1 w') (_ : B ≤ w1.heap.size) : Rd w' v n xs :=
  h.below (hs.trans (hb.mono hB))
theorem Rw.ok.rd {B : Nat} {w : World} {r : Rw} (h : r.ok B w) (h0 : r.ob = none := by rfl) : Rd w r.v r.n r.xs := by
  rcases h.slice h0 with ⟨hv, hn, hx⟩ | ⟨g, cap, hv, hg, -, hl, -⟩
  · exact ⟨sa r.v, 0, by rw [hn]; exact hv, .inl hn⟩
  · exact ⟨some ⟨g, 0, none⟩, cap, hv, .inr ⟨g, 0, rfl, hl, fun j u hj => by rw [Nat.zero_add]; exact h.cell (by rw [hv]; rfl) j u hj h0⟩⟩
theorem own_of_vob {v : Value} {g : Nat} (h : vob v = some g) : v.ownBlock = some g := by
  unfold vob ob at h
  split at h
  · simpa [Value.ownBlock] using h
  · cases h
/-- The row lies at the front of one of these. -/
def Cov (rs : List Rw) (r : Rw) : Prop := (∃ a cap, r.v = .slice a 0 cap ∧ r.n = 0) ∨ ∃ s ∈ rs, s.ob = none ∧ ∃ g cap, vob s.v = some g ∧ r.v = .slice (some ⟨g, 0, none⟩) r.n cap ∧ r.xs <+: s.xs
theorem Cov.rd {B : Nat} {w : World} {rs : List Rw} {r : Rw} (h : Cov rs r) (ho : Own B w rs) : Rd w r.v r.n r.xs := by
  rcases h with ⟨a, cap, hv, hn⟩ | ⟨s, hs, h0, g, cap, hg, hv, t, ht⟩
  · exact ⟨a, cap, by rw [hv, hn], .inl hn⟩
  · have hok := ho.1 s hs
    refine ⟨some ⟨g, 0, none⟩, cap, hv, .inr ⟨g, 0, rfl, (hok.lt g hg).2, fun j u hj => ?_⟩⟩
    rw [Nat.zero_add]
    refine hok.cell (own_of_vob hg) j u ?_ h0
    rw [← ht, List.getElem?_append_left (List.getElem?_eq_some_iff.1 hj).1]
    exact hj
theorem Cov.mono {rs ss : List Rw} {r : Rw} (h : Cov rs r) (hs : ∀ s ∈ rs, s ∈ ss) : Cov ss r := by
  rcases h with h | ⟨s, hm, rest⟩
  · exact .inl h
  · exact .inr ⟨s, hs s hm, rest⟩

/-- The text of mark k of list i. -/
def nameB (i k : Nat) : List UInt8 := [109, UInt8.ofNat (65 + i % 26), UInt8.ofNat (65 + i / 26 % 26), UInt8.ofNat (48 + k % 10), UInt8.ofNat (48 + k / 10 % 10), UInt8.ofNat (48 + k / 100 % 10)]
theorem u8_nat (n : Nat) (h : n < 256) : ((UInt8.ofNat n).toNat : Int) = (n : Int) := by
  rw [UInt8.toNat_ofNat']
  omega
theorem name_cells (i k : Nat) : Lib.byteCells (nameB i k) = [Value.int .u8 109, Value.int .u8 (65 + (i : Int) % 26), Value.int .u8 (65 + (i : Int) / 26 % 26), Value.int .u8 (48 + (k : Int) % 10), Value.int .u8 (48 + (k : Int) / 10 % 10), Value.int .u8 (48 + (k : Int) / 100 % 10)] := by
  have e1 := u8_nat (65 + i % 26) (by omega)
  have e2 := u8_nat (65 + i / 26 % 26) (by omega)
  have e3 := u8_nat (48 + k % 10) (by omega)
  have e4 := u8_nat (48 + k / 10 % 10) (by omega)
  have e5 := u8_nat (48 + k / 100 % 10) (by omega)
  simp only [Lib.byteCells, nameB, List.map_cons, List.map_nil, e1, e2, e3, e4, e5]
  rfl

set_option maxHeartbeats 1000000 in
set_option maxRecDepth 100000 in
theorem name_any (i k : Nat) (w : World) (hi : i ≤ 1000) (hk : k ≤ 1000000) :
    Calls Tryz.prog 166 #[.int .i64 (i : Int), .int .i64 (k : Int)] w fun e w' => e = .returned (.string ⟨(nameB i k).toArray⟩) ∧ Below w.heap.size w w' := by
  have hcv := run_convert_bytes_back (P := Tryz.prog) (w.alloc (.cells #[Value.int .u8 109, Value.int .u8 (65 + (i : Int) % 26), Value.int .u8 (65 + (i : Int) / 26 % 26), Value.int .u8 (48 + (k : Int) % 10), Value.int .u8 (48 + (k : Int) / 10 % 10), Value.int .u8 (48 + (k : Int) / 100 % 10)] 5)) 85 9 5 ⟨w.heap.size, 0, none⟩ 6 (nameB i k) Tryz.underlying85 Tryz.underlying5 Tryz.underlying9 (by
    intro j hj
    have hb : (Lib.byteCells (nameB i k))[j]? = some (.int .u8 ((nameB i k)[j].toNat : Int)) := by simp [Lib.byteCells, hj]
    rw [name_cells] at hb
    rw [← hb]
    have hj6 : j < 6 := by simpa [nameB] using hj
    clear hb hj
    match j, hj6 with
    | 0, _ => simp [Addr.add]
    | 1, _ => simp [Addr.add]
    | 2, _ => simp [Addr.add]
    | 3, _ => simp [Addr.add]
    | 4, _ => simp [Addr.add]
    | 5, _ => simp [Addr.add])
  have hl : (nameB i k).length = 6 := rfl
  rw [hl] at hcv
  clear hl
  generalize nameB i k = N at hcv
  go_enter Tryz.func166, Tryz.ntmps166
  go_wp2
  go_ret
  exact ⟨rfl, (Below.refl _ _).alloc (Nat.le_refl _) _⟩


end Go.Proofs.YtfndlfnlepndmaaGreat
