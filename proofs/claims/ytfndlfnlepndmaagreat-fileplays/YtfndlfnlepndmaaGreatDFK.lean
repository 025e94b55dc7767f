/- A step on both, whatever it is. -/
import Derived.Test.YtfndlfnlepndmaaGreatDFJ
import Derived.Test.YtfndlfnlepndmaaGreatRM
namespace Go.Proofs.YtfndlfnlepndmaaGreat
open Go.RowKit

section
variable {F G : Nat → Prop} {B p q n m n' m' : Nat} {s r s' r' : St} {w w' : World}
theorem intsV_of {w0 w : World} {la : Option Addr} {ll lc : Nat} {lz : List Int} (h : IsIs w0 la ll lz) (hn : la = none → lc = 0) (hb : Below w0.heap.size w0 w) : IntsV w (.slice la ll lc) lz ∧ ∀ y, la = some y → lz = [] ∨ ∃ b o, y = ⟨b, o, none⟩ := by
  obtain ⟨-, hl, -, hr⟩ := h
  subst hl
  rcases hr with rfl | ⟨b, o, rfl, hc⟩
  · cases la with
    | none => exact ⟨.inl ⟨by rw [hn rfl]; rfl, rfl⟩, fun y h => by cases h⟩
    | some y => exact ⟨.inr ⟨y, lc, rfl, fun j u hu => by simp [cellsI] at hu⟩, fun _ _ => .inl rfl⟩
  · refine ⟨.inr ⟨⟨b, o, none⟩, lc, rfl, fun j u hu => ?_⟩, fun y h => .inr ⟨b, o, by cases h; rfl⟩⟩
    rw [addrO]
    have hj : j < lz.length := by
      have := (List.getElem?_eq_some_iff.1 hu).1
      simpa [cellsI] using this
    have e : u = .int .i64 lz[j] := by simpa [cellsI, hj] using hu.symm
    rw [e]
    exact (hb.cell (p := ⟨b, o + j, none⟩) (World.block_lt_of_cell? _ _ (hc j hj))).trans (hc j hj)
theorem do_all {w0 : World} (h : Two F B p q n m s r w) (hN : n ≤ 90000) (hM : m ≤ 1000000000) (x : Stp) (hk : fitsI x.n) (hs : x.small) (hi : IsIs w0 x.la x.ll x.lz) (hn : x.la = none → x.lc = 0) (hw0 : w0.heap.size ≤ B) (hb0 : Below w0.heap.size w0 w) :
    Calls Tryz.prog 13 #[.pointer (some ⟨p, 0, none⟩), .pointer (some ⟨q, 0, none⟩), .agg #[.int .i64 x.k, .int .i64 x.n, .string x.a, .string x.b, .string x.d, .slice x.la x.ll x.lc]] w fun e w' => e = .returned (.bool true) ∧ Done F B p q (n + 2) (m + x.d.size) w w' := by
  obtain ⟨K, N, A, Bn, D, la, ll, lc, lz⟩ := x
  obtain ⟨sa, sb, sd, sl⟩ := hs
  have hA : A.size ≤ 1000000 := by have : A.size ≤ 9000 := sa; omega
  have hBn : Bn.size ≤ 1000000 := by have : Bn.size ≤ 9000 := sb; omega
  have hD : D.size ≤ 1000000 := by have : D.size ≤ 9000 := sd; omega
  have hNk : N ≤ 9223372036854775807 := hk.2
  by_cases h1 : K = 1
  · subst h1; exact do1_any h hN hM N A Bn D hA hBn hD la ll lc
  by_cases h2 : K = 2
  · subst h2; exact do2_any h hN hM N A Bn D hA hBn hD la ll lc
  by_cases h3 : K = 3
  · subst h3; exact do3_any h hN hM N A Bn D hA hBn hD la ll lc
  by_cases h4 : K = 4
  · subst h4; exact do4_any h hN hM N A Bn D hA hBn hD la ll lc
  by_cases h5 : K = 5
  · subst h5; exact do5_any h hN hM N A Bn D hA hBn hD la ll lc
  by_cases h6 : K = 6
  · subst h6; exact do6_any h hN hM N A Bn D hA hBn hD la ll lc
  by_cases h7 : K = 7
  · subst h7; exact do7_any h hN hM N A Bn D hA hBn hD la ll lc hNk
  by_cases h8 : K = 8
  · subst h8; exact do8_any h hN hM N A Bn D hA hBn hD la ll lc hNk
  by_cases h9 : K = 9
  · subst h9
    have hll : lz.length = ll := hi.2.1
    exact do9_any h hN hM N A Bn D hA hBn hD la ll lc lz (intsV_of hi hn hb0).2 (by have : ll ≤ 9000 := sl; omega) fun W' hb => (intsV_of hi hn (hb0.trans (hb.mono hw0))).1
  by_cases h10 : K = 10
  · subst h10; exact do10_any h hN hM N A Bn D hA hBn hD la ll lc
  exact doX_any h K (by omega) N A Bn D la ll lc
end
end Go.Proofs.YtfndlfnlepndmaaGreat
