/- The statements' alive. -/
import Derived.Test.YthaalhigmihijabYA
namespace Go.Proofs.Ythaalhigmihijab
open Go.RowKit

def eA : Ent := ⟨⟨#[97]⟩, 1, 1, ⟨#[]⟩⟩
def eB : Ent := ⟨⟨#[98]⟩, 1, 1, ⟨#[]⟩⟩
theorem fitA : eA.Fit := ⟨by decide, by decide, by decide, by decide⟩
theorem fitB : eB.Fit := ⟨by decide, by decide, by decide, by decide⟩
theorem right_A (a : Nat) : Right [⟨a, eA, 1⟩] := ⟨by simp, List.pairwise_singleton _ _, fun n hn => by
  rw [List.mem_singleton] at hn
  subst hn
  exact fitA⟩
theorem right_AB (a b : Nat) : Right [⟨a, eA, 1⟩, ⟨b, eB, 2⟩] := ⟨by simp, List.pairwise_cons.2 ⟨fun y hy => by
    rw [List.mem_singleton] at hy
    subst hy
    show cmpE eA.k eA.s eB.k eB.s = -1
    decide, List.pairwise_singleton _ _⟩, fun n hn => by
  simp only [List.mem_cons, List.not_mem_nil, or_false] at hn
  rcases hn with rfl | rfl
  · exact fitA
  · exact fitB⟩
theorem put_a {p : Nat} {w : World} (h : Lst p 0 [] w) :
    Calls Try.prog 11 #[.pointer (some ⟨p, 0, none⟩), .agg #[.string ⟨#[97]⟩, .int .u64 1, .int .i64 1, .string ⟨#[]⟩], .int .i64 1] w fun e w' => e = .returned (.bool true) ∧ ∃ a, w.heap.size ≤ a ∧ Lst p 1 [⟨a, eA, 1⟩] w' ∧ Turn (foot p []) w w' :=
  put_yes (P := []) (Q := []) eA 1 h ⟨by simp, List.Pairwise.nil, by simp⟩ ⟨rfl, by simp, by simp⟩ (by unfold maxLen; decide) (by unfold maxLen; decide) rfl rfl (by omega)
theorem put_b {p a : Nat} {w : World} (h : Lst p 1 [⟨a, eA, 1⟩] w) :
    Calls Try.prog 11 #[.pointer (some ⟨p, 0, none⟩), .agg #[.string ⟨#[98]⟩, .int .u64 1, .int .i64 1, .string ⟨#[]⟩], .int .i64 2] w fun e w' => e = .returned (.bool true) ∧ ∃ b, w.heap.size ≤ b ∧ Lst p 2 [⟨a, eA, 1⟩, ⟨b, eB, 2⟩] w' ∧ Turn (foot p [⟨a, eA, 1⟩]) w w' :=
  put_yes (P := [⟨a, eA, 1⟩]) (Q := []) eB 2 h (right_A a) ⟨rfl, fun x hx => by
    rw [List.mem_singleton] at hx
    subst hx
    show cmpE eA.k eA.s eB.k eB.s = -1
    decide, by simp⟩ (by unfold maxLen; decide) (by unfold maxLen; decide) rfl rfl (by omega)
theorem path_c {p a b : Nat} {w : World} (h : Lst p 2 [⟨a, eA, 1⟩, ⟨b, eB, 2⟩] w) :
    Calls Try.prog 28 #[.pointer (some ⟨p, 0, none⟩), .string ⟨#[99]⟩] w fun e w' => ∃ g cap, e = .returned (.slice (some ⟨g, 0, none⟩) 2 cap) ∧ w'.cell? ⟨g, 0, none⟩ = some (.int .i64 1) ∧ w'.cell? ⟨g, 1, none⟩ = some (.int .i64 2) ∧ Below w.heap.size w w' := by
  refine (path_any (P := [⟨a, eA, 1⟩, ⟨b, eB, 2⟩]) (Q := []) (k := ⟨#[99]⟩) h ⟨rfl, fun x hx => ?_, by simp⟩ (right_AB a b).fit (by simp)).mono ?_
  · simp only [List.mem_cons, List.not_mem_nil, or_false] at hx
    rcases hx with rfl | rfl
    · show cmpE eA.k eA.s _ _ = -1
      decide
    · show cmpE eB.k eB.s _ _ = -1
      decide
  · rintro e w' ⟨v, rfl, hr, -, hb⟩
    have hg : hgt [⟨a, eA, 1⟩, ⟨b, eB, 2⟩] = 2 := rfl
    rw [hg] at hr
    have hc := hr.cell
    rcases hr.2 with ⟨h0, -⟩ | ⟨g, cap, cur, rfl, -⟩
    · cases h0
    · refine ⟨g, cap + 1, rfl, ?_, ?_, hb⟩
      · exact hc g 0 _ rfl 0 _ rfl
      · exact hc g 0 _ rfl 1 _ rfl
theorem get_a {p a b : Nat} {w : World} (h : Lst p 2 [⟨a, eA, 1⟩, ⟨b, eB, 2⟩] w) :
    Calls Try.prog 12 #[.pointer (some ⟨p, 0, none⟩), .string ⟨#[97]⟩, .int .u64 9] w fun e w' => e = .returned (.tuple #[.agg #[.string ⟨#[97]⟩, .int .u64 1, .int .i64 1, .string ⟨#[]⟩], .bool true]) ∧ Below w.heap.size w w' := by
  refine (get_any (P := []) (Q := [⟨a, eA, 1⟩, ⟨b, eB, 2⟩]) h (right_AB a b) ⟨rfl, by simp, fun x hx => ?_⟩).mono ?_
  · simp only [List.mem_cons, List.not_mem_nil, or_false] at hx
    rcases hx with rfl | rfl
    · show cmpE eA.k eA.s _ _ ≠ -1
      decide
    · show cmpE eB.k eB.s _ _ ≠ -1
      decide
  · rintro e w' ⟨rfl, hb⟩
    refine ⟨?_, hb⟩
    rw [getR_yes (show (⟨a, eA, 1⟩ : Nd).e.k = ⟨#[97]⟩ from rfl)]
    rfl
set_option maxHeartbeats 4000000 in
set_option maxRecDepth 100000 in
theorem alive7_any (w : World) : Calls Try.prog 9 #[] w fun e w' => e = .returned (.bool true) ∧ Below w.heap.size w w' := by
  have CN := Lib.hid (fun W => new_any W)
  have C1 := Lib.hid (fun (p : Nat) (W : World) (h : Lst p 0 [] W) => put_a h)
  have C2 := Lib.hid (fun (p a : Nat) (W : World) (h : Lst p 1 [⟨a, eA, 1⟩] W) => put_b h)
  have C3 := Lib.hid (fun (p a b : Nat) (W : World) (h : Lst p 2 [⟨a, eA, 1⟩, ⟨b, eB, 2⟩] W) => path_c h)
  have C4 := Lib.hid (fun (p a b : Nat) (W : World) (h : Lst p 2 [⟨a, eA, 1⟩, ⟨b, eB, 2⟩] W) => get_a h)
  have C5 := Lib.hid (fun (p a b : Nat) (W : World) (h : Lst p 2 [⟨a, eA, 1⟩, ⟨b, eB, 2⟩] W) => len_any h)
  have C6 := Lib.hid (fun (p a b : Nat) (W : World) (h : Lst p 2 [⟨a, eA, 1⟩, ⟨b, eB, 2⟩] W) => height_any h)
  go_enter Try.func9, Try.ntmps9
  go_wp2_with fail
  (with_reducible refine (CN.out _).mono ?_)
  rintro e w1 ⟨rfl, h1, hs1, hb1⟩
  have H1 := Lib.hid h1
  have HB1 := Lib.hid hb1
  have hp1 := h1.hdlt
  clear h1 hb1 hs1
  generalize hpp : w.heap.size = p at *
  have HPP := Lib.hid hpp
  clear hpp
  go_wp2_with fail
  (with_reducible refine (C1.out p _ H1.out).mono ?_)
  rintro e w2 ⟨rfl, a, ha, h2, ht2⟩
  have H2 := Lib.hid h2
  have HT2 := Lib.hid ht2
  clear h2 ht2
  go_wp2_with fail
  (with_reducible refine (C2.out p a _ H2.out).mono ?_)
  rintro e w3 ⟨rfl, b, hb, h3, ht3⟩
  have H3 := Lib.hid h3
  have HT3 := Lib.hid ht3
  clear h3 ht3
  go_wp2_with fail
  (with_reducible refine (C3.out p a b _ H3.out).mono ?_)
  rintro e w4 ⟨g, cap, rfl, g0, g1, hb4⟩
  have H4 := Lib.hid (H3.out.below hb4)
  have HB4 := Lib.hid hb4
  have hglt := lt_of_cell g0
  clear hb4
  go_wp2_with fail
  (with_reducible refine (C4.out p a b _ H4.out).mono ?_)
  rintro e w5 ⟨rfl, hb5⟩
  have H5 := Lib.hid (H4.out.below hb5)
  have k0 := (hb5.cell (p := ⟨g, 0, none⟩) hglt).trans g0
  have k1 := (hb5.cell (p := ⟨g, 1, none⟩) hglt).trans g1
  have HB5 := Lib.hid hb5
  clear hb5
  have H6 := Lib.hid (fun o => H5.out.below ((Below.refl w5.heap.size w5).alloc (Nat.le_refl _) o))
  have hglt5 := lt_of_cell k0
  go_wp2_with (first | (go_at_call 16; (with_reducible refine (C5.out p a b _ (H6.out _)).mono ?_); rintro e w6 ⟨rfl, rfl⟩) | (go_at_call 29; (with_reducible refine (C6.out p a b _ (H6.out _)).mono ?_); rintro e w6 ⟨rfl, rfl⟩) | fail)
  go_ret
  refine ⟨rfl, ?_⟩
  have hB2 : Below p w w2 := HB1.out.trans (HT2.out.below (by omega) (fun k hk => by simp [foot, hd] at hk; omega))
  have hB3 : Below p w w3 := hB2.trans (HT3.out.below (by have := HT2.out.size; omega) (fun k hk => by simp [foot, hd] at hk; omega))
  have hB4 := hB3.trans (HB4.out.mono (by have := HT2.out.size; have := HT3.out.size; omega))
  have hp4 : p < w4.heap.size := H4.out.hdlt
  have hp5 : p < w5.heap.size := H5.out.hdlt
  have hB5 := hB4.trans (HB5.out.mono (by omega))
  rw [HPP.out]
  exact hB5.alloc (by omega) _
end Go.Proofs.Ythaalhigmihijab
