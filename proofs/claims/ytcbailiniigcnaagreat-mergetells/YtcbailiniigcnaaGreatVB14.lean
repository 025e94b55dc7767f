/- A first call. -/
import Derived.Test.YtcbailiniigcnaaGreatVM
namespace Go.Proofs.YtcbailiniigcnaaGreat
open Go.ChangeShapes Go.WideShapes Go.ChangeAt Go.Deep Go.RowKit

theorem entsAt_alloc {w : World} {l : List Ent} {W : World} (hW : w.alloc (.cells (cellsE l).toArray 56) = W) : EntsAt W.heap.size W (some ⟨w.heap.size, 0, none⟩) l.length l :=
  ⟨rfl, .inr ⟨w.heap.size, 0, rfl, by rw [← hW]; simp, fun i hi j u hu => by
    rw [Nat.zero_add, ← hW]
    refine nce rfl ?_
    rw [List.getElem?_toArray]
    exact cellsE_get l i hi j u hu⟩⟩
theorem below_alloc {w W : World} {o : Obj} (hW : w.alloc o = W) : Below w.heap.size w W := by rw [← hW]; exact (Below.refl _ _).alloc (Nat.le_refl _) _
theorem below_then {w w' : World} {o : Obj} (h : Below (w.alloc o).heap.size (w.alloc o) w') : Below w.heap.size w w' := (below_alloc (o := o) rfl).trans (h.mono (below_alloc (w := w) (o := o) rfl).size)
theorem below_on {B : Nat} {a b c : World} (h : Below B a b) (hB : B ≤ a.heap.size) (k : Below b.heap.size b c) : Below B a c := h.trans (k.mono (Nat.le_trans hB h.size))
/-- What still can be read at a later world. -/
def Reads (w : World) (a : Option Addr) (l : List Ent) : Prop := ∀ W, Below w.heap.size w W → EntsAt W.heap.size W a l.length l
theorem reads_of {w : World} {a : Option Addr} {l : List Ent} (h : EntsAt w.heap.size w a l.length l) : Reads w a l := fun _ hb => (h.below hb).mono hb.size
theorem Reads.next {w w' : World} {a : Option Addr} {l : List Ent} (h : Reads w a l) (hb : Below w.heap.size w w') : Reads w' a l := fun _ hb2 => h _ (hb.trans (hb2.mono hb.size))
theorem Reads.now {w : World} {a : Option Addr} {l : List Ent} (h : Reads w a l) : EntsAt w.heap.size w a l.length l := h w (Below.refl _ _)
/-- A row of pairs that can be read. -/
def QsAt (w : World) (a : Option Addr) (l : List (ByteArray × ByteArray)) : Prop := l = [] ∨ ∃ b, a = some ⟨b, 0, none⟩ ∧ b < w.heap.size ∧ ∀ i (h : i < l.length), w.cell? ⟨b, i * 2, none⟩ = some (.string l[i].1) ∧ w.cell? ⟨b, i * 2 + 1, none⟩ = some (.string l[i].2)
theorem QsAt.below {w w' : World} {a : Option Addr} {l : List (ByteArray × ByteArray)} (h : QsAt w a l) (hb : Below w.heap.size w w') : QsAt w' a l := by
  rcases h with h | ⟨b, h1, h2, h3⟩
  · exact .inl h
  · refine .inr ⟨b, h1, Nat.lt_of_lt_of_le h2 hb.size, fun i hi => ?_⟩
    obtain ⟨k1, k2⟩ := h3 i hi
    exact ⟨(hb.cell (p := ⟨b, _, none⟩) h2).trans k1, (hb.cell (p := ⟨b, _, none⟩) h2).trans k2⟩
theorem flat_one (l : List Ent) : [l].flatten = l := by simp
theorem lsAt_one {w W : World} {a : Option Addr} {c : Nat} {l : List Ent} (h : EntsAt w.heap.size w a l.length l) (hc : l.length ≤ c) (hW : w.alloc (.cells #[.slice a l.length c] 26) = W) : LsAt W (some ⟨w.heap.size, 0, none⟩) 1 [l] := by
  have hb := below_alloc hW
  have hs : w.heap.size < W.heap.size := by rw [← hW]; simp
  refine ⟨rfl, .inr ⟨_, 0, rfl, hs, fun i hi => ?_⟩⟩
  match i, hi with
  | 0, _ => exact ⟨a, c, by rw [← hW]; exact nce rfl rfl, (h.below hb).mono hb.size, hc⟩
theorem lsAt_two {w W : World} {a b : Option Addr} {c d : Nat} {l m : List Ent} (h : EntsAt w.heap.size w a l.length l) (k : EntsAt w.heap.size w b m.length m) (hc : l.length ≤ c) (hd : m.length ≤ d) (hW : w.alloc (.cells #[.slice a l.length c, .slice b m.length d] 26) = W) : LsAt W (some ⟨w.heap.size, 0, none⟩) 2 [l, m] := by
  have hb := below_alloc hW
  have hs : w.heap.size < W.heap.size := by rw [← hW]; simp
  refine ⟨rfl, .inr ⟨_, 0, rfl, hs, fun i hi => ?_⟩⟩
  match i, hi with
  | 0, _ => exact ⟨a, c, by rw [← hW]; exact nce rfl rfl, (h.below hb).mono hb.size, hc⟩
  | 1, _ => exact ⟨b, d, by rw [← hW]; exact nce rfl rfl, (k.below hb).mono hb.size, hd⟩
theorem lsAt_three {w W : World} {a b f : Option Addr} {c d g : Nat} {l m n : List Ent} (h : EntsAt w.heap.size w a l.length l) (k : EntsAt w.heap.size w b m.length m) (q : EntsAt w.heap.size w f n.length n) (hc : l.length ≤ c) (hd : m.length ≤ d) (hg : n.length ≤ g) (hW : w.alloc (.cells #[.slice a l.length c, .slice b m.length d, .slice f n.length g] 26) = W) : LsAt W (some ⟨w.heap.size, 0, none⟩) 3 [l, m, n] := by
  have hb := below_alloc hW
  have hs : w.heap.size < W.heap.size := by rw [← hW]; simp
  refine ⟨rfl, .inr ⟨_, 0, rfl, hs, fun i hi => ?_⟩⟩
  match i, hi with
  | 0, _ => exact ⟨a, c, by rw [← hW]; exact nce rfl rfl, (h.below hb).mono hb.size, hc⟩
  | 1, _ => exact ⟨b, d, by rw [← hW]; exact nce rfl rfl, (k.below hb).mono hb.size, hd⟩
  | 2, _ => exact ⟨f, g, by rw [← hW]; exact nce rfl rfl, (q.below hb).mono hb.size, hg⟩
/-- The one row of a pair. -/
theorem row_q {w : World} {v : Value} {l : List (ByteArray × ByteArray)} (h : Row w 58 2 v l.length (cellsQ l)) : ∃ a c, v = .slice a l.length c ∧ (l = [] ∨ ∃ b, a = some ⟨b, 0, none⟩ ∧ b < w.heap.size ∧ ∀ i (h : i < l.length), w.cell? ⟨b, i * 2, none⟩ = some (.string l[i].1) ∧ w.cell? ⟨b, i * 2 + 1, none⟩ = some (.string l[i].2)) := by
  have hc := h.cell
  obtain ⟨a, cap, hv, -, -⟩ := h.le
  refine ⟨a, cap, hv, ?_⟩
  rcases h.2 with ⟨h0, -⟩ | ⟨g, c, cur, hv', hg, -⟩
  · exact .inl (List.eq_nil_of_length_eq_zero h0)
  · rw [hv] at hv'
    cases hv'
    refine .inr ⟨g, rfl, (Array.getElem?_eq_some_iff.1 hg).1, fun i hi => ?_⟩
    obtain ⟨h1, h2⟩ := cellsQ_get l i hi
    have k1 := hc g 0 _ hv (i * 2) _ h1
    have k2 := hc g 0 _ hv (i * 2 + 1) _ h2
    rw [Nat.zero_add] at k1 k2
    exact ⟨k1, k2⟩
set_option maxHeartbeats 8000000 in
set_option maxRecDepth 100000 in
theorem alive14 (CA : AllC) (CL : LatestC) (CT : CutC) (w : World) : Calls Tryz.prog 4 #[] w fun e w' => e = .returned (.bool true) ∧ Below w.heap.size w w' := by
  obtain ⟨W1, hW1⟩ : ∃ W, w.alloc (.cells #[.string ⟨#[97]⟩, .int .u64 3, .int .i64 1, .string ⟨#[]⟩] 56) = W := ⟨_, rfl⟩
  obtain ⟨W2, hW2⟩ : ∃ W, W1.alloc (.cells #[.string ⟨#[97]⟩, .int .u64 1, .int .i64 2, .string ⟨#[]⟩, .string ⟨#[98]⟩, .int .u64 2, .int .i64 1, .string ⟨#[]⟩] 56) = W := ⟨_, rfl⟩
  have hE1 : EntsAt W1.heap.size W1 (some ⟨w.heap.size, 0, none⟩) 1 al1 := entsAt_alloc (l := al1) hW1
  have hE2 : EntsAt W2.heap.size W2 (some ⟨W1.heap.size, 0, none⟩) 2 al2 := entsAt_alloc (l := al2) hW2
  have hb1 := below_alloc hW1
  have hb2 := below_alloc hW2
  have hE1' : EntsAt W2.heap.size W2 (some ⟨w.heap.size, 0, none⟩) 1 al1 := (hE1.below hb2).mono hb2.size
  obtain ⟨W3, hW3⟩ : ∃ W, W2.alloc (.cells #[.slice (some ⟨w.heap.size, 0, none⟩) 1 1, .slice (some ⟨W1.heap.size, 0, none⟩) 2 2] 26) = W := ⟨_, rfl⟩
  have hL := lsAt_two (l := al1) (m := al2) hE1' hE2 (Nat.le_refl _) (Nat.le_refl _) hW3
  have hb3 := below_alloc hW3
  have C1 := Lib.hid (CL 2 (some ⟨W2.heap.size, 0, none⟩) 2 2 [al1, al2] W3 hL (by omega) (by decide) al_sort)
  rw [al_lat] at C1
  have HB3 := Lib.hid (show Below w.heap.size w W3 from hb1.trans ((hb2.trans (hb3.mono hb2.size)).mono hb1.size))
  clear hE1 hE2 hE1' hL hb1 hb2 hb3
  have HCT := Lib.hid CT
  have HCA := Lib.hid CA
  clear CL CT CA
  generalize hl1 : w.heap.size = l1 at *
  generalize hl2 : W1.heap.size = l2 at *
  generalize hl3 : W2.heap.size = l3 at *
  go_enter Tryz.func4, Tryz.ntmps4
  go_wp2_with fail
  go_at_call 9
  refine C1.out.mono ?_
  rintro _ w4 ⟨v, rfl, hN, b4⟩
  obtain ⟨a4, c4, rfl, hq | ⟨g4, rfl, hg4, hc4⟩⟩ := row_q hN.row
  · cases hq
  have q4 : w4.cell? ⟨g4, 0, none⟩ = some (.string ⟨#[98]⟩) := (hc4 0 (by decide)).1
  obtain ⟨W5, hW5⟩ : ∃ W, w4.alloc (.cells #[.string ⟨#[97]⟩, .int .u64 2, .int .i64 0, .string ⟨#[]⟩, .string ⟨#[97]⟩, .int .u64 1, .int .i64 0, .string ⟨#[]⟩, .string ⟨#[98]⟩, .int .u64 1, .int .i64 0, .string ⟨#[]⟩] 56) = W := ⟨_, rfl⟩
  have hE5 : EntsAt W5.heap.size W5 (some ⟨w4.heap.size, 0, none⟩) 3 al3 := entsAt_alloc (l := al3) hW5
  have hb5 := below_alloc hW5
  have q5 : W5.cell? ⟨g4, 0, none⟩ = some (.string ⟨#[98]⟩) := (hb5.cell (p := ⟨g4, 0, none⟩) hg4).trans q4
  have C2 := Lib.hid (HCT.out 1 (some ⟨w4.heap.size, 0, none⟩) 3 al3 W5 hE5 (by decide) al_sort3 al_ok3)
  rw [al_cut] at C2
  have hs3 : l1 ≤ W3.heap.size := by have := HB3.out.size; omega
  have HB5 := Lib.hid (show Below l1 w W5 from HB3.out.trans ((b4.trans (hb5.mono b4.size)).mono hs3))
  have hs5 : l1 ≤ W5.heap.size := by have := HB5.out.size; omega
  have hg5 : g4 < W5.heap.size := Nat.lt_of_lt_of_le hg4 hb5.size
  clear hE5 hb5 hN q4 hc4 b4 HB3 hs3 C1
  generalize hl5 : w4.heap.size = l5 at *
  go_wp2_with fail
  go_at_call 16
  refine C2.out.mono ?_
  rintro _ w6 ⟨a6, c6, rfl, hL6, b6⟩
  obtain ⟨b, off, rfl, hb, hc⟩ : ∃ b off, a6 = some ⟨b, off, none⟩ ∧ b < w6.heap.size ∧ ∃ ai ci, w6.cell? ⟨b, off, none⟩ = some (.slice ai 2 ci) := by
    rcases hL6.2 with h0 | ⟨b, off, h1, h2, h3⟩
    · cases h0
    · obtain ⟨ai, ci, h4, -⟩ := h3 0 (by decide)
      exact ⟨b, off, h1, h2, ai, ci, h4⟩
  obtain ⟨ai, ci, hc⟩ := hc
  have q6 : w6.cell? ⟨g4, 0, none⟩ = some (.string ⟨#[98]⟩) := (b6.cell (p := ⟨g4, 0, none⟩) hg5).trans q5
  have C3 := Lib.hid (fun (X : World) => HCA.out none 0 0 [] X ⟨rfl, .inl rfl⟩ (by omega) (by decide) (fun l hl => by cases hl))
  have HB6 := Lib.hid (show Below l1 w w6 from HB5.out.trans (b6.mono hs5))
  have hs6 : l1 ≤ w6.heap.size := by have := HB6.out.size; omega
  clear hL6 q5 b6 HB5 C2 hs5 hg5
  go_wp2_with fail
  go_at_call 8
  refine (C3.out _).mono ?_
  rintro _ w7 ⟨v7, rfl, n7, b7⟩
  obtain ⟨a7, c7, h7, -, -⟩ := n7.row.le
  have h8 : v7 = .slice a7 0 c7 := h7
  subst h8
  have HB7 := Lib.hid (show Below l1 w w7 from HB6.out.trans (b7.mono hs6))
  clear n7 b7 h7 C3 HB6 hs6
  go_wp2_with fail
  go_ret
  exact ⟨rfl, HB7.out⟩
end Go.Proofs.YtcbailiniigcnaaGreat
