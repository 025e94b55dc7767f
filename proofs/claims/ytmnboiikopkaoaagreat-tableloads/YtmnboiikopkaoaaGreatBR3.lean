/- Versions; the document own Less, Compare, Valid. -/
import Derived.Test.YtmnboiikopkaoaaGreatBR2
import Derived.Test.YtmnboiikopkaoaaGreatE1
import Derived.Test.YtmnboiikopkaoaaGreatFR
import Derived.Deep.RegionHeld3
import Derived.Lib.Hide
import Derived.Deep.Slices
import Derived.Deep.SlicePairs
import Derived.ProofKit
import Derived.ChangeOld
import Derived.OpenShut
import Derived.Laws.IdiomStrings
namespace Go.Proofs.YtmnboiikopkaoaaGreat
open Go.ChangeShapes Go.WideShapes Go.ChangeAt Go.Deep
open Go.RowKit
open Go.RowKit Go.Lib

theorem belowN {B : Nat} {a w : World} (h : Below B a w) (n : Nat) : Below B a (w.drewN n) := ⟨h.os, h.tape, h.output, h.size, h.block⟩
theorem nce {w : World} {cur : Array Value} {e : TypeId} {n j : Nat} {v : Value} (hn : n = w.heap.size) (h : cur[j]? = some v) : (w.alloc (.cells cur e)).cell? ⟨n, j, none⟩ = some v := by
  subst hn
  have hb : (w.alloc (.cells cur e)).heap[w.heap.size]? = some (.cells cur e) := by simp [World.alloc, -World.alloc_eq]
  simp only [World.cell?, hb]
  exact h
theorem oce {w : World} {o : Obj} {b j : Nat} {v : Value} (hb : b < w.heap.size) (h : w.cell? ⟨b, j, none⟩ = some v) : (w.alloc o).cell? ⟨b, j, none⟩ = some v :=
  (World.cell?_of_block (Below.heap_alloc w o b hb)).trans h
/-- A version: key, number, kind, value. -/
def ev (k : ByteArray) (s n : Int) (v : ByteArray) : Value := .agg #[.string k, .int .u64 s, .int .i64 n, .string v]
def validB (k : ByteArray) (n : Int) (v : ByteArray) : Bool := decide (k.size ≤ 300) && decide (v.size ≤ 60000) && (n == 1 || (n == 2 && v.toList.isEmpty))
theorem new_block (w : World) (o : Obj) {n : Nat} (hn : n = w.heap.size) : (w.alloc o).heap[n]? = some o := by
  subst hn
  simp [World.alloc, -World.alloc_eq]
/-- A version in a box of its own. -/
def Boxe (B : Nat) (k : ByteArray) (s n : Int) (v : ByteArray) (w : World) : Prop :=
  w.heap[B]? = some (.cells #[.string k, .int .u64 s, .int .i64 n, .string v] 48)
section
variable {B : Nat} {k : ByteArray} {s n : Int} {v : ByteArray} {w : World}
theorem Boxe.lt (h : Boxe B k s n v w) : B < w.heap.size := (Array.getElem?_eq_some_iff.1 h).1
theorem Boxe.c0 (h : Boxe B k s n v w) : w.cell? ⟨B, 0, none⟩ = some (.string k) := by unfold World.cell?; rw [show w.heap[B]? = _ from h]; rfl
theorem Boxe.c1 (h : Boxe B k s n v w) : w.cell? ⟨B, 1, none⟩ = some (.int .u64 s) := by unfold World.cell?; rw [show w.heap[B]? = _ from h]; rfl
theorem Boxe.c2 (h : Boxe B k s n v w) : w.cell? ⟨B, 2, none⟩ = some (.int .i64 n) := by unfold World.cell?; rw [show w.heap[B]? = _ from h]; rfl
theorem Boxe.c3 (h : Boxe B k s n v w) : w.cell? ⟨B, 3, none⟩ = some (.string v) := by unfold World.cell?; rw [show w.heap[B]? = _ from h]; rfl
theorem Boxe.f (h : Boxe B k s n v w) (j : Nat) : w.frozen? ⟨B, j, none⟩ = false := by unfold World.frozen?; rw [show w.heap[B]? = _ from h]; simp
theorem Boxe.drew (h : Boxe B k s n v w) : Boxe B k s n v w.drew := h
theorem Boxe.below {w' : World} (h : Boxe B k s n v w) (hb : Below w.heap.size w w') : Boxe B k s n v w' := (hb.block B h.lt).trans h
end
structure Ent where
  k : ByteArray
  s : Int
  n : Int
  v : ByteArray
def Ent.zero : Ent := ⟨⟨#[]⟩, 0, 0, ⟨#[]⟩⟩
def Ent.cells (e : Ent) : List Value := [.string e.k, .int .u64 e.s, .int .i64 e.n, .string e.v]
def Ent.val (e : Ent) : Value := ev e.k e.s e.n e.v
/-- A slice of versions: there are none, or they lie in one block. -/
def EntsAt (n₀ : Nat) (w : World) (a : Option Addr) (len : Nat) (es : List Ent) : Prop :=
  es.length = len ∧ (len = 0 ∨ ∃ b off, a = some ⟨b, off, none⟩ ∧ b < n₀ ∧ ∀ i (h : i < es.length), ∀ j u, es[i].cells[j]? = some u → w.cell? ⟨b, off + i * 4 + j, none⟩ = some u)
theorem EntsAt.below {n₀ : Nat} {A B : World} {a : Option Addr} {len : Nat} {es : List Ent} (h : EntsAt n₀ A a len es) (hb : Below n₀ A B) : EntsAt n₀ B a len es := by
  refine ⟨h.1, ?_⟩
  rcases h.2 with h0 | ⟨b, off, e, hlt, hc⟩
  · exact .inl h0
  · exact .inr ⟨b, off, e, hlt, fun i hi j u hu => (hb.cell (p := ⟨b, off + i * 4 + j, none⟩) hlt).trans (hc i hi j u hu)⟩
theorem EntsAt.mono {n₀ n₁ : Nat} {w : World} {a : Option Addr} {len : Nat} {es : List Ent} (h : EntsAt n₀ w a len es) (hn : n₀ ≤ n₁) : EntsAt n₁ w a len es := by
  refine ⟨h.1, ?_⟩
  rcases h.2 with h0 | ⟨b, off, e, hlt, hc⟩
  · exact .inl h0
  · exact .inr ⟨b, off, e, Nat.lt_of_lt_of_le hlt hn, hc⟩
def roomL : Int → List Int → Int
  | r, [] => r
  | r, z :: zs => if r < 0 ∨ z > r then -1 else roomL (r - z) zs
theorem roomL_le : ∀ (zs : List Int) (r : Int), -1 ≤ r → (∀ z ∈ zs, 0 ≤ z) → -1 ≤ roomL r zs ∧ roomL r zs ≤ r ∧ (0 ≤ roomL r zs → ∀ z ∈ zs, z ≤ r)
  | [], r, h, _ => ⟨h, Int.le_refl _, fun _ z hz => by cases hz⟩
  | z :: zs, r, h, hz => by
    unfold roomL
    have hz0 := hz z (by simp)
    split
    · exact ⟨by omega, by omega, fun h0 => by omega⟩
    · rename_i hn
      obtain ⟨h1, h2, h3⟩ := roomL_le zs (r - z) (by omega) (fun y hy => hz y (List.mem_cons_of_mem _ hy))
      refine ⟨h1, by omega, fun h0 y hy => ?_⟩
      rcases List.mem_cons.1 hy with rfl | hy
      · omega
      · have := h3 h0 y hy
        omega
theorem roomL_drop (zs : List Int) (k : Nat) (hk : k < zs.length) (r : Int) : roomL r (zs.drop k) = if r < 0 ∨ zs[k] > r then -1 else roomL (r - zs[k]) (zs.drop (k + 1)) := by
  rw [List.drop_eq_getElem_cons hk]
  rfl
set_option maxHeartbeats 1000000 in
set_option maxRecDepth 100000 in
theorem room_list (b cap : Nat) (zs : List Int) (r : Int) (w : World) (hr : -1 ≤ r) (hr2 : r ≤ 1000000000) (hl : zs.length ≤ 1000) (hz : ∀ z ∈ zs, 0 ≤ z ∧ z ≤ 9223372036854775807) (hc : ∀ i (h : i < zs.length), w.cell? ⟨b, i, none⟩ = some (.int .i64 zs[i])) :
    Calls Tryz.prog 16 #[.int .i64 r, .slice (some ⟨b, 0, none⟩) zs.length cap] w fun e w' => e = .returned (.int .i64 (roomL r zs)) ∧ w = w' := by
  have HC := Lib.hid hc
  have HZ := Lib.hid hz
  clear hc hz
  go_enter Tryz.func16, Tryz.ntmps16
  go_wp2
  go_loopw [0, 5] (fun rv iv wr => ∃ (k : Nat) (q : Int), k ≤ zs.length ∧ rv = .int .i64 q ∧ iv = .int .i64 (k : Int) ∧ -1 ≤ q ∧ q ≤ 1000000000 ∧ roomL q (zs.drop k) = roomL r zs ∧ wr = w) (fun _ iv _ => zs.length - (intOf iv).toNat)
  case atStart => exact ⟨0, r, Nat.zero_le _, rfl, rfl, hr, hr2, rfl, rfl⟩
  case round =>
    obtain ⟨k, q, hk, rfl, rfl, hq1, hq2, he, rfl⟩ := hrel
    by_cases hlt : k < zs.length
    · have c := HC.out k hlt
      have z := HZ.out zs[k] (List.getElem_mem _)
      rw [roomL_drop zs k hlt] at he
      generalize zs[k] = v at c z he
      have hkl : (k : Int) < (zs.length : Int) := by omega
      by_cases h1 : q < 0
      · rw [if_pos (.inl h1)] at he
        have d1 : decide (q < 0) = true := decide_eq_true h1
        go_wp2
        go_ret
        exact ⟨by rw [← he]; rfl, rfl⟩
      have d1 : decide (q < 0) = false := decide_eq_false h1
      by_cases h2 : q < v
      · rw [if_pos (.inr h2)] at he
        have d2 : decide (q < v) = true := decide_eq_true h2
        go_wp2
        go_ret
        exact ⟨by rw [← he]; rfl, rfl⟩
      have d2 : decide (q < v) = false := decide_eq_false h2
      rw [if_neg (by omega)] at he
      go_wp2
      go_roundw
      case rel => exact ⟨k + 1, q - v, by omega, by go_num, by go_num, by omega, by omega, he, (by first | rfl | trivial)⟩
      case measure => simp [intOf]; omega
    · obtain rfl : k = zs.length := by omega
      rw [List.drop_length] at he
      go_wp2
      go_ret
      exact ⟨by rw [← he]; rfl, rfl⟩
def Ent.Ok (e : Ent) : Prop := e.k.size ≤ maxLen ∧ 0 ≤ e.s ∧ e.s ≤ 18446744073709551615 ∧ -9223372036854775808 ≤ e.n ∧ e.n ≤ 9223372036854775807 ∧ e.v.size ≤ maxLen
set_option maxRecDepth 100000 in
theorem ent_of {H : Type} {enc : TypeId × Value → H} {w : World} {base n : Nat} {sp : Nat → Bool} {held : Bool} {cs : List Value} {y : DataW H × List MemPlace}
    (h : DataW.trod enc Tryz.prog w base sp held n 48 cs = some y) (hl : cs.length = 4) : ∃ p : Ent, p.Ok ∧ cs = p.cells := by
  obtain ⟨xs, k, hk, hxy, _, hxl, hf⟩ := DataW.trod_struct Tryz.underlying48 h
  have c3 : Tryz.prog.cellsOf 3 = 1 := by kernel_rfl
  have c9 : Tryz.prog.cellsOf 9 = 1 := by kernel_rfl
  have cu : Tryz.prog.cellsOf 46 = 1 := by kernel_rfl
  match xs, hxl, cs, hl with
  | [y0, y1, y2, y3], _, [v0, v1, v2, v3], _ =>
    have g0 := hf 0 _ rfl
    have g1 := hf 1 _ rfl
    have g2 := hf 2 _ rfl
    have g3 := hf 3 _ rfl
    simp [c3, c9, cu] at g0 g1 g2 g3
    obtain ⟨s0, e0, -, b0⟩ := DataW.trod_string Tryz.underlying9 g0
    obtain ⟨z1, e1, -, b1⟩ := DataW.trod_int Tryz.underlying46 g1
    obtain ⟨z2, e2, -, b2⟩ := DataW.trod_int Tryz.underlying3 g2
    obtain ⟨s3, e3, -, b3⟩ := DataW.trod_string Tryz.underlying9 g3
    simp only [List.cons.injEq, and_true] at e0 e1 e2 e3
    subst e0 e1 e2 e3
    have k1 := bounds_u64 b1
    have k2 := bounds_i64 b2
    exact ⟨⟨s0, z1, z2, s3⟩, ⟨b0, k1.1, by have := k1.2; omega, k2.1, k2.2, b3⟩, rfl⟩
theorem add_plainE (b o j : Nat) : (⟨b, o, none⟩ : Addr).add j = ⟨b, o + j, none⟩ := by unfold Addr.add; split <;> simp_all
theorem block_ltE {w : World} {a : Addr} {v : Value} (h : w.cell? a = some v) : a.block < w.heap.size := by
  rcases Nat.lt_or_ge a.block w.heap.size with h1 | h1
  · exact h1
  · simp [World.cell?, Array.getElem?_eq_none h1] at h
/-- A list of versions that came in. -/
def IsEs (w : World) (a : Option Addr) (len : Nat) (l : List Ent) : Prop := len ≤ maxLen ∧ (∀ x ∈ l, x.Ok) ∧ EntsAt w.heap.size w a len l
theorem choose_ltE {α : Type} (z : α) {n : Nat} {p : Nat → α → Prop} (h : ∀ i, i < n → ∃ x, p i x) : ∃ f : Nat → α, ∀ i, i < n → p i (f i) := by
  classical
  exact ⟨fun i => if hi : i < n then Classical.choose (h i hi) else z, fun i hi => by
    simp only [hi, dite_true]
    exact Classical.choose_spec (h i hi)⟩
set_option maxRecDepth 100000 in
theorem rowE_of {H : Type} {enc : TypeId × Value → H} {w : World} {base fuel : Nat} {held : Bool} {a : Option Addr} {len cap : Nat} {x : DataW H × List MemPlace}
    (h : DataW.trod enc Tryz.prog w base (fun _ => true) held fuel 22 (Value.slice a len cap).cells.toList = some x) : ∃ l, IsEs w a len l := by
  have c4 : Tryz.prog.cellsOf 48 = 4 := by kernel_rfl
  rcases open_slice Tryz.underlying22 h with ⟨hcs, _⟩ | ⟨y, l, c, m, n, D, Pl, hcs, _, hl, hm, hmm, _, hx⟩
  · simp [Value.cells] at hcs
    obtain ⟨rfl, rfl, rfl⟩ := hcs
    exact ⟨[], by unfold maxLen; omega, by simp, rfl, .inl rfl⟩
  · simp [Value.cells] at hcs
    obtain ⟨rfl, rfl, rfl⟩ := hcs
    simp at hmm
    subst hmm
    have each : ∀ i, i < len → ∃ p : Ent, p.Ok ∧ ∀ j u, p.cells[j]? = some u → w.cell? (y.add (i * 4 + j)) = some u := by
      intro i hi
      obtain ⟨cs', h1, h2⟩ := hx i (by omega)
      rw [c4] at h1
      obtain ⟨_, hlen, hcell⟩ := World.cells?_some h1
      obtain ⟨p, hp, rfl⟩ := ent_of h2 hlen
      refine ⟨p, hp, fun j u hj => ?_⟩
      have hj4 : j < 4 := by
        have := (List.getElem?_eq_some_iff.1 hj).1
        simpa [Ent.cells] using this
      have := hcell j hj4
      rw [Addr.add_add] at this
      rw [this, hj]
    obtain ⟨q, hq⟩ := choose_ltE Ent.zero each
    refine ⟨(List.range len).map q, Nat.le_trans hl hm, ?_, by simp, ?_⟩
    · intro p hp
      obtain ⟨i, hi, rfl⟩ := List.mem_map.1 hp
      exact (hq i (List.mem_range.1 hi)).1
    · rcases Nat.eq_zero_or_pos len with h0 | h0
      · exact .inl h0
      · right
        have hc0 := (hq 0 h0).2 0 _ rfl
        obtain ⟨b, off, spot⟩ := y
        have hs : spot = none := by simpa [Addr.add] using World.cell?_spot hc0
        subst hs
        refine ⟨b, off, rfl, block_ltE hc0, ?_⟩
        intro i hi j u hu
        have hi' : i < len := by simpa using hi
        have e : ((List.range len).map q)[i] = q i := by simp
        rw [e] at hu
        have := (hq i hi').2 j u hu
        rw [add_plainE, ← Nat.add_assoc] at this
        exact this
/-- What a version that fits has. -/
def Ent.Short (e : Ent) : Prop := e.k.size ≤ 20000 ∧ e.v.size ≤ 20000
def lensE (x : Ent) : List Int := [(x.k.size : Int), (x.v.size : Int)]
theorem lensE_small {x : Ent} {r : Int} (h1 : -1 ≤ r) (h2 : r ≤ 20000) (h : 0 ≤ roomL r (lensE x)) : x.Short := by
  obtain ⟨-, -, h3⟩ := roomL_le (lensE x) r h1 (by simp [lensE])
  have := h3 h
  simp only [lensE, List.mem_cons, List.not_mem_nil, or_false, forall_eq_or_imp, forall_eq] at this
  unfold Ent.Short
  omega
set_option maxHeartbeats 4000000 in
set_option maxRecDepth 100000 in
theorem small_any {w : World} (a : Option Addr) (len cap : Nat) (es : List Ent) (hE : EntsAt w.heap.size w a len es) (hlm : len ≤ 9223372036854775807) (hok : ∀ x ∈ es, x.Ok) :
    Calls Tryz.prog 4 #[.slice a len cap] w fun e w' => ∃ t : Bool, e = .returned (.bool t) ∧ (t = true → len ≤ 150 ∧ ∀ x ∈ es, x.Short) ∧ Below w.heap.size w w' := by
  have hll : es.length = len := hE.1
  have HO := Lib.hid hE
  have HOK := Lib.hid hok
  clear hE hok
  go_enter Tryz.func4, Tryz.ntmps4
  go_wp2
  go_loopw [3, 4] (fun rv iv wr => ∃ (i : Nat) (q : Int), i ≤ len ∧ i ≤ 400 ∧ rv = .int .i64 q ∧ iv = .int .i64 (i : Int) ∧ -1 ≤ q ∧ q ≤ 20000 ∧ (0 ≤ q → ∀ x ∈ es.take i, x.Short) ∧ Below w.heap.size w wr) (fun _ iv _ => len - (intOf iv).toNat)
  case atStart => exact ⟨0, 20000, Nat.zero_le _, Nat.zero_le _, rfl, rfl, by omega, by omega, fun _ x hx => by simp at hx, Below.refl _ _⟩
  case round =>
    obtain ⟨i, q, hi, hi4, rfl, rfl, hq1, hq2, hsm, hbl⟩ := hrel
    have HSM := Lib.hid hsm
    clear hsm
    by_cases hgo : i < len ∧ i < 400 ∧ 0 ≤ q
    · obtain ⟨g1, g2, g3⟩ := hgo
      obtain ⟨b, off, rfl, hblt, st, hst, hcell⟩ : ∃ b off, a = some ⟨b, off, none⟩ ∧ b < w.heap.size ∧ ∃ x : Ent, es[i]? = some x ∧ ∀ j u, x.cells[j]? = some u → wr.cell? ⟨b, off + i * 4 + j, none⟩ = some u := by
        rcases (HO.out.below hbl).2 with h0 | ⟨b, off, e, h1, h2⟩
        · omega
        · exact ⟨b, off, e, h1, es[i]'(by omega), List.getElem?_eq_getElem (by omega), h2 i (by omega)⟩
      obtain ⟨hk, -, -, -, -, hv⟩ := HOK.out st (List.mem_of_getElem? hst)
      have hbr : b < wr.heap.size := by have := hbl.size; omega
      have q0 : wr.cell? ⟨b, off + i * 4, none⟩ = some (.string st.k) := hcell 0 _ rfl
      have q3 : wr.cell? ⟨b, off + i * 4 + 3, none⟩ = some (.string st.v) := hcell 3 _ rfl
      clear hcell
      have hil : (i : Int) < (len : Int) := by omega
      have d1 : decide ((i : Int) < 400) = true := by simp; omega
      have d2 : decide (0 ≤ q) = true := decide_eq_true g3
      have hR := room_list wr.heap.size 2 (lensE st) q (wr.alloc (.cells #[.int .i64 (st.k.size : Int), .int .i64 (st.v.size : Int)] 3)).drew hq1 (by omega) (by simp [lensE]) (by unfold maxLen at *; simp [lensE]; omega) (fun j hj => by
        match j, hj with
        | 0, _ => exact nce rfl rfl
        | 1, _ => exact nce rfl rfl)
      have hlen4 : (lensE st).length = 2 := rfl
      rw [hlen4] at hR
      obtain ⟨r1, r2, -⟩ := roomL_le (lensE st) q hq1 (by simp [lensE])
      have HS4 := Lib.hid (lensE_small (x := st) hq1 hq2)
      generalize roomL q (lensE st) = q' at hR r1 r2 HS4
      have HR := Lib.hid hR
      clear hR hlen4
      go_wp2
      go_region_held3 (fun w' => w'.cell? ⟨b, off + i * 4, none⟩ = some (.string st.k) ∧ w'.cell? ⟨b, off + i * 4 + 3, none⟩ = some (.string st.v)) (first | go_keep | exact ⟨oce hbr q0, oce hbr q3⟩) (first | (go_at_call 16; refine HR.out.mono ?_; rintro e w1 ⟨rfl, rfl⟩) | fail)
      all_goals go_wp2
      all_goals
        have hnx : 0 ≤ q' → ∀ x ∈ es.take (i + 1), x.Short := by
          intro h0 x hx
          rw [List.take_add_one, hst] at hx
          rcases List.mem_append.1 hx with hx | hx
          · exact HSM.out g3 x hx
          · simp at hx
            rw [hx]
            exact HS4.out h0
        have hbn : Below w.heap.size w (wr.alloc (.cells #[.int .i64 (st.k.size : Int), .int .i64 (st.v.size : Int)] 3)).drew := (hbl.alloc hbl.size _).drew
      all_goals go_roundw
      all_goals first
        | exact ⟨i + 1, q', by omega, by omega, rfl, by go_num, r1, by omega, hnx, hbn⟩
        | (simp [intOf]; omega)
    · by_cases hl2 : len ≤ 150 ∧ 0 ≤ q
      · obtain ⟨m1, m2⟩ := hl2
        obtain rfl : i = len := by omega
        have d1 : decide ((i : Int) ≤ 150) = true := by simp; omega
        have d2 : decide (0 ≤ q) = true := decide_eq_true m2
        go_wp2
        go_ret
        refine ⟨true, rfl, fun _ => ⟨m1, fun x hx => HSM.out m2 x ?_⟩, hbl⟩
        rw [List.take_of_length_le (by omega)]
        exact hx
      · by_cases e1 : i < len
        · have hil : (i : Int) < (len : Int) := by omega
          by_cases e2 : i < 400
          · have hq : q < 0 := by omega
            have d1 : decide ((i : Int) < 400) = true := by simp; omega
            have d2 : decide (0 ≤ q) = false := decide_eq_false (by omega)
            by_cases e3 : len ≤ 150
            · have d3 : decide ((len : Int) ≤ 150) = true := by simp; omega
              go_wp2
              go_ret
              exact ⟨false, rfl, fun h => (by cases h), hbl⟩
            · have d3 : decide ((len : Int) ≤ 150) = false := by simp; omega
              go_wp2
              go_ret
              exact ⟨false, rfl, fun h => (by cases h), hbl⟩
          · have d1 : decide ((i : Int) < 400) = false := by simp; omega
            have d3 : decide ((len : Int) ≤ 150) = false := by simp; omega
            go_wp2
            go_ret
            exact ⟨false, rfl, fun h => (by cases h), hbl⟩
        · obtain rfl : i = len := by omega
          by_cases e3 : i ≤ 150
          · have d3 : decide ((i : Int) ≤ 150) = true := by simp; omega
            have d2 : decide (0 ≤ q) = false := decide_eq_false (by omega)
            go_wp2
            go_ret
            exact ⟨false, rfl, fun h => (by cases h), hbl⟩
          · have d3 : decide ((i : Int) ≤ 150) = false := by simp; omega
            go_wp2
            go_ret
            exact ⟨false, rfl, fun h => (by cases h), hbl⟩
theorem cb_drop (a b : ByteArray) (i : Nat) (ha : i < a.size) (hb : i < b.size) : compareBytes (a.data.toList.drop i) (b.data.toList.drop i) = if a[i] < b[i] then -1 else if b[i] < a[i] then 1 else compareBytes (a.data.toList.drop (i + 1)) (b.data.toList.drop (i + 1)) := by
  have h1 : a.data.toList.drop i = a[i] :: a.data.toList.drop (i + 1) := List.drop_eq_getElem_cons (by rw [Array.length_toList]; exact ha)
  have h2 : b.data.toList.drop i = b[i] :: b.data.toList.drop (i + 1) := List.drop_eq_getElem_cons (by rw [Array.length_toList]; exact hb)
  rw [h1, h2]
  rfl
theorem cb_end (x y : List UInt8) (h : x = [] ∨ y = []) : decide (compareBytes x y = -1) = decide (x.length < y.length) := by
  rcases h with rfl | rfl
  · cases y <;> rfl
  · cases x <;> rfl
end Go.Proofs.YtmnboiikopkaoaaGreat
