/- MergeParts, walked, over what the calls are asked to tell. -/
import Derived.Test.YtcbailiniigcnaaLLatest14W
namespace Go.Proofs.Ytcbailiniigcnaa
open Go.ChangeShapes Go.WideShapes Go.ChangeAt Go.Deep Go.RowKit

set_option maxHeartbeats 4000000 in
set_option maxRecDepth 100000 in
theorem ordered_yes {w : World} (a : Option Addr) (len cap : Nat) (es : List Ent) (hE : EntsAt w.heap.size w a len es) (hlm : len ≤ 1000000) (hok : ∀ x ∈ es, x.Ok) (hs : es.Pairwise ltE) :
    Calls Try.prog 7 #[.slice a len cap] w fun e w' => e = .returned (.bool true) ∧ Below w.heap.size w w' := by
  have hll : es.length = len := hE.1
  have HO := Lib.hid hE
  have HOK := Lib.hid hok
  have HPS := Lib.hid (List.pairwise_iff_getElem.1 hs)
  clear hE hok hs
  go_enter Try.func7, Try.ntmps7
  go_wp2
  go_loopw [3] (fun iv wr => ∃ i : Nat, iv = .int .i64 ((i + 1 : Nat) : Int) ∧ i ≤ len ∧ Below w.heap.size w wr) (fun iv _ => len + 1 - (RowKit.intOf iv).toNat)
  case atStart => exact ⟨0, rfl, Nat.zero_le _, Below.refl _ _⟩
  case round =>
    obtain ⟨i, rfl, hi, hbl⟩ := hrel
    have HBL := Lib.hid hbl
    obtain ⟨m, hm⟩ : ∃ m, m = i + 1 := ⟨_, rfl⟩
    rw [← hm]
    by_cases hlt : i + 1 < len
    · obtain ⟨b, off, rfl, hblt, HCE⟩ : ∃ b off, a = some ⟨b, off, none⟩ ∧ b < w.heap.size ∧ ∀ i, i < len → ∃ x : Ent, es[i]? = some x ∧ ∀ j u, x.cells[j]? = some u → wr.cell? ⟨b, off + i * 4 + j, none⟩ = some u := by
        rcases (HO.out.below hbl).2 with h0 | ⟨b, off, e, h1, h2⟩
        · omega
        · exact ⟨b, off, e, h1, fun i hi => ⟨es[i]'(by omega), List.getElem?_eq_getElem (by omega), h2 i (by omega)⟩⟩
      obtain ⟨⟨K, SQ, NN, V⟩, hg1, hc1⟩ := HCE i (by omega)
      obtain ⟨⟨K', SQ', NN', V'⟩, hg2, hc2⟩ := HCE (i + 1) hlt
      obtain ⟨o1, -⟩ := HOK.out _ (List.mem_of_getElem? hg1)
      obtain ⟨o2, -⟩ := HOK.out _ (List.mem_of_getElem? hg2)
      dsimp only at o1 o2
      unfold maxLen at o1 o2
      have p0 : wr.cell? ⟨b, off + i * 4, none⟩ = some (.string K) := hc1 0 _ rfl
      have p1 : wr.cell? ⟨b, off + i * 4 + 1, none⟩ = some (.int .u64 SQ) := hc1 1 _ rfl
      have p2 : wr.cell? ⟨b, off + i * 4 + 2, none⟩ = some (.int .i64 NN) := hc1 2 _ rfl
      have p3 : wr.cell? ⟨b, off + i * 4 + 3, none⟩ = some (.string V) := hc1 3 _ rfl
      have q0 : wr.cell? ⟨b, off + m * 4, none⟩ = some (.string K') := by rw [hm]; exact hc2 0 _ rfl
      have q1 : wr.cell? ⟨b, off + m * 4 + 1, none⟩ = some (.int .u64 SQ') := by rw [hm]; exact hc2 1 _ rfl
      have q2 : wr.cell? ⟨b, off + m * 4 + 2, none⟩ = some (.int .i64 NN') := by rw [hm]; exact hc2 2 _ rfl
      have q3 : wr.cell? ⟨b, off + m * 4 + 3, none⟩ = some (.string V') := by rw [hm]; exact hc2 3 _ rfl
      have hx : cmpE K SQ K' SQ' = -1 := by
        have h := HPS.out i (i + 1) (by omega) (by omega) (by omega)
        obtain ⟨l1, e1⟩ := List.getElem?_eq_some_iff.1 hg1
        obtain ⟨l2, e2⟩ := List.getElem?_eq_some_iff.1 hg2
        rw [e1, e2] at h
        exact h
      have CC := Lib.hid (fun W => cmp5_any K SQ NN V K' SQ' NN' V' W (by omega) (by omega))
      have HX := Lib.hid hx
      clear hx
      generalize cmpE K SQ K' SQ' = X at *
      have hil : (m : Int) < (len : Int) := by omega
      have hil3 : (i : Int) < (len : Int) := by omega
      have hij : (m : Int) - 1 = (i : Int) := by omega
      have hwr : IntKind.i64.wrap ((m : Int) - 1) = (i : Int) := by rw [IntKind.wrap_i64]; omega
      have hw3 : IntKind.i64.wrap (i : Int) = (i : Int) := by rw [IntKind.wrap_i64]; omega
      have HM := Lib.hid hm
      clear hm
      clear HCE hc1 hc2 hg1 hg2
      cases hd : decide (0 ≤ X) with
      | true =>
        have h1 := of_decide_eq_true hd
        have h2 := HX.out
        omega
      | false =>
        go_wp2
        go_region_held3 (fun w' => w'.cell? ⟨b, off + i * 4, none⟩ = some (.string K) ∧ w'.cell? ⟨b, off + i * 4 + 1, none⟩ = some (.int .u64 SQ) ∧ w'.cell? ⟨b, off + i * 4 + 2, none⟩ = some (.int .i64 NN) ∧ w'.cell? ⟨b, off + i * 4 + 3, none⟩ = some (.string V) ∧ w'.cell? ⟨b, off + m * 4, none⟩ = some (.string K') ∧ w'.cell? ⟨b, off + m * 4 + 1, none⟩ = some (.int .u64 SQ') ∧ w'.cell? ⟨b, off + m * 4 + 2, none⟩ = some (.int .i64 NN') ∧ w'.cell? ⟨b, off + m * 4 + 3, none⟩ = some (.string V')) (first | assumption | exact ⟨p0, p1, p2, p3, q0, q1, q2, q3⟩ | exact ⟨kk _ _ p0, kk _ _ p1, kk _ _ p2, kk _ _ p3, kk _ _ q0, kk _ _ q1, kk _ _ q2, kk _ _ q3⟩) (first | (go_at_call 14; (with_reducible refine (CC.out _).mono ?_); rintro e w1 ⟨rfl, hb1⟩; have kk : ∀ p v, wr.cell? p = some v → w1.cell? p = some v := fun p v h => (hb1.cell (World.block_lt_of_cell? wr _ h)).trans h) | fail)
        all_goals go_wp2
        all_goals go_roundw
        all_goals first
          | exact ⟨i + 1, by rw [HM.out]; go_num, by omega, hbl.drew.trans (hb1.mono hbl.size)⟩
          | (have := HM.out; simp only [RowKit.intOf]; omega)
    · have d1 : decide ((m : Int) < (len : Int)) = false := by simp; omega
      go_wp2
      go_ret
      exact ⟨rfl, HBL.out⟩
/-- A list that may be handed in: sorted, of right parts, not long. -/
def GoodL (l : List Ent) : Prop := l.Pairwise ltE ∧ (∀ x ∈ l, x.Fine) ∧ l.length ≤ 10000
theorem goodL_all {l : List Ent} (hk : ∀ x ∈ l, x.Fine) (hl : l.length ≤ 10000) : GoodL (allE l) := ⟨allE_sorted l, fun x hx => hk x ((allE_mem l x).1 hx).mem, Nat.le_trans (allE_length l) hl⟩
theorem all_two (CA : AllC) {w : World} {a b : Option Addr} {c d : Nat} {l m : List Ent} (h : EntsAt w.heap.size w a l.length l) (k : EntsAt w.heap.size w b m.length m) (hc : l.length ≤ c) (hd : m.length ≤ d) (hl : GoodL l) (hm : GoodL m) :
    Calls Try.prog 11 #[.slice (some ⟨w.heap.size, 0, none⟩) 2 2] (w.alloc (.cells #[.slice a l.length c, .slice b m.length d] 22)) fun e w' => ∃ av cv, e = .returned (.slice av (allE (l ++ m)).length cv) ∧ EntsAt w'.heap.size w' av (allE (l ++ m)).length (allE (l ++ m)) ∧ Below w.heap.size w w' ∧ (allE (l ++ m)).length ≤ cv := by
  have hf : [l, m].flatten = l ++ m := by simp
  have h1 := CA (some ⟨w.heap.size, 0, none⟩) 2 2 [l, m] _ (lsAt_two (c := c) (d := d) h k hc hd rfl) (by omega) (by rw [hf, List.length_append]; have := hl.2.2; have := hm.2.2; omega) (fun x hx => by
    simp only [List.mem_cons, List.not_mem_nil, or_false] at hx
    rcases hx with rfl | rfl
    · exact ⟨hl.1, hl.2.1⟩
    · exact ⟨hm.1, hm.2.1⟩)
  rw [hf] at h1
  refine h1.mono ?_
  rintro _ w' ⟨v, rfl, hN, hb⟩
  obtain ⟨av, cv, rfl, hE, hle⟩ := row_ents2 hN.row
  exact ⟨av, cv, rfl, hE, below_then hb, hle⟩
theorem all_three (CA : AllC) {w : World} {a b f : Option Addr} {c d g : Nat} {l m n : List Ent} (h : EntsAt w.heap.size w a l.length l) (k : EntsAt w.heap.size w b m.length m) (q : EntsAt w.heap.size w f n.length n) (hc : l.length ≤ c) (hd : m.length ≤ d) (hg : n.length ≤ g) (hl : GoodL l) (hm : GoodL m) (hn : GoodL n) :
    Calls Try.prog 11 #[.slice (some ⟨w.heap.size, 0, none⟩) 3 3] (w.alloc (.cells #[.slice a l.length c, .slice b m.length d, .slice f n.length g] 22)) fun e w' => ∃ av cv, e = .returned (.slice av (allE (l ++ m ++ n)).length cv) ∧ EntsAt w'.heap.size w' av (allE (l ++ m ++ n)).length (allE (l ++ m ++ n)) ∧ Below w.heap.size w w' ∧ (allE (l ++ m ++ n)).length ≤ cv := by
  have hf : [l, m, n].flatten = l ++ m ++ n := by simp
  have h1 := CA (some ⟨w.heap.size, 0, none⟩) 3 3 [l, m, n] _ (lsAt_three (c := c) (d := d) (g := g) h k q hc hd hg rfl) (by omega) (by rw [hf, List.length_append, List.length_append]; have := hl.2.2; have := hm.2.2; have := hn.2.2; omega) (fun x hx => by
    simp only [List.mem_cons, List.not_mem_nil, or_false] at hx
    rcases hx with rfl | rfl | rfl
    · exact ⟨hl.1, hl.2.1⟩
    · exact ⟨hm.1, hm.2.1⟩
    · exact ⟨hn.1, hn.2.1⟩)
  rw [hf] at h1
  refine h1.mono ?_
  rintro _ w' ⟨v, rfl, hN, hb⟩
  obtain ⟨av, cv, rfl, hE, hle⟩ := row_ents2 hN.row
  exact ⟨av, cv, rfl, hE, below_then hb, hle⟩
set_option maxHeartbeats 8000000 in
set_option maxRecDepth 100000 in
theorem mergeParts_walkC (CA : AllC) (CL : LatestC) (CT : CutC) {w : World} (pa pb pc : Option Addr) (ka kb kc : Nat) (A B C : List Ent) (hA : EntsAt w.heap.size w pa A.length A) (hB : EntsAt w.heap.size w pb B.length B) (hC : EntsAt w.heap.size w pc C.length C) (hcA : A.length ≤ ka) (hcB : B.length ≤ kb) (hcC : C.length ≤ kc) (hlA : A.length ≤ 9223372036854775807) (hlB : B.length ≤ 9223372036854775807) (hlC : C.length ≤ 9223372036854775807) (hokA : ∀ x ∈ A, x.Ok) (hokB : ∀ x ∈ B, x.Ok) (hokC : ∀ x ∈ C, x.Ok) :
    Calls Try.prog 4 #[.slice pa A.length ka, .slice pb B.length kb, .slice pc C.length kc] w fun e w' => e = .returned (.bool true) ∧ Below w.heap.size w w' := by
  have HAL := Lib.hid (alive14 CA CL CT)
  have HCA := Lib.hid CA
  have RA := Lib.hid (reads_of hA)
  have RB := Lib.hid (reads_of hB)
  have RC := Lib.hid (reads_of hC)
  obtain ⟨W1, hW1⟩ : ∃ W, w.alloc (.cells #[.slice pa A.length ka, .slice pb B.length kb, .slice pc C.length kc] 22) = W := ⟨_, rfl⟩
  have HL := Lib.hid (lsAt_three hA hB hC hcA hcB hcC hW1)
  have HKA := Lib.hid hcA
  have HKB := Lib.hid hcB
  have HKC := Lib.hid hcC
  clear hcA hcB hcC
  have HB1 := Lib.hid (below_alloc hW1)
  have HOK := Lib.hid (show ∀ l ∈ [A, B, C], (∀ x ∈ l, x.Ok) ∧ l.length ≤ 9223372036854775807 from fun l hl => by
    simp only [List.mem_cons, List.not_mem_nil, or_false] at hl
    rcases hl with rfl | rfl | rfl
    · exact ⟨hokA, hlA⟩
    · exact ⟨hokB, hlB⟩
    · exact ⟨hokC, hlC⟩)
  clear CA CL CT hA hB hC hokA hokB hokC
  go_enter Try.func4, Try.ntmps4
  go_wp2_with fail
  go_loopw [8] (fun iv wr => ∃ i : Nat, iv = .int .i64 (i : Int) ∧ i ≤ 3 ∧ Hid (∀ j l, j < i → [A, B, C][j]? = some l → l.length ≤ 60 ∧ l.Pairwise ltE ∧ ∀ x ∈ l, x.Short) ∧ Hid (Below W1.heap.size W1 wr)) (fun iv _ => 3 - (intOf iv).toNat)
  case atStart => exact ⟨0, rfl, Nat.zero_le _, Lib.hid (fun j l hj => by omega), Lib.hid (Below.refl _ _)⟩
  case round =>
    obtain ⟨i, rfl, hi3, HG, HB⟩ := hrel
    obtain ⟨wo, hwo⟩ : ∃ wo, wo = wr := ⟨wr, rfl⟩
    subst hwo
    by_cases hlt : i < 3
    · obtain ⟨b, off, hbe, hb, ai, ci, hc, hE⟩ : ∃ b off, b = w.heap.size ∧ b < W1.heap.size ∧ ∃ ai ci, W1.cell? ⟨b, off + i, none⟩ = some (.slice ai ([A, B, C][i]'hlt).length ci) ∧ EntsAt W1.heap.size W1 ai ([A, B, C][i]'hlt).length ([A, B, C][i]'hlt) ∧ off = 0 := by
        rcases HL.out.2 with h0 | ⟨b, off, e, h1, h2⟩
        · cases h0
        · cases e
          obtain ⟨ai, ci, h3, h4, -⟩ := h2 i hlt
          exact ⟨_, 0, rfl, h1, ai, ci, h3, h4, rfl⟩
      obtain ⟨hE, rfl⟩ := hE
      subst hbe
      have hmem : [A, B, C][i]? = some ([A, B, C][i]'hlt) := List.getElem?_eq_getElem hlt
      generalize [A, B, C][i]'hlt = l at hc hE hmem
      obtain ⟨hok, hlm⟩ := HOK.out l (List.mem_of_getElem? hmem)
      rw [Nat.zero_add] at hc
      have HMEM := Lib.hid hmem
      have hc1 : wo.cell? ⟨w.heap.size, i, none⟩ = some (.slice ai l.length ci) := (HB.out.cell (p := ⟨w.heap.size, i, none⟩) hb).trans hc
      have RL := Lib.hid ((reads_of hE).next HB.out)
      have HOKL := Lib.hid hok
      have hi3' : (i : Int) < 3 := by omega
      have C1 := Lib.hid (small_any ai l.length ci l RL.out.now hlm hok)
      clear hE hmem hok
      go_wp2_with fail
      go_at_call 6
      refine C1.out.mono ?_
      rintro _ w1 ⟨t, rfl, ht, b1⟩
      have hc2 : w1.cell? ⟨w.heap.size, i, none⟩ = some (.slice ai l.length ci) := (b1.cell (p := ⟨w.heap.size, i, none⟩) (Nat.lt_of_lt_of_le hb HB.out.size)).trans hc1
      have RL1 := Lib.hid (RL.out.next b1)
      have HB2 := Lib.hid (HB.out.trans (b1.mono HB.out.size))
      have HW1 := Lib.hid (HB1.out.trans (HB2.out.mono HB1.out.size))
      clear C1 RL b1
      cases t with
      | false =>
        clear ht
        go_wp2_with fail
        go_at_call 8
        refine (HAL.out _).mono ?_
        rintro _ w2 ⟨rfl, b2⟩
        go_wp2_with fail
        go_ret
        exact ⟨rfl, HW1.out.trans (b2.mono HW1.out.size)⟩
      | true =>
      obtain ⟨hl150, hsh⟩ := ht rfl
      have HSH := Lib.hid hsh
      clear hsh
      clear ht
      by_cases h60 : 60 < l.length
      · have h60' : (60 : Int) < (l.length : Int) := by omega
        have h60d : decide ((60 : Int) < (l.length : Int)) = true := by simp; omega
        go_wp2_with fail
        go_at_call 8
        refine (HAL.out _).mono ?_
        rintro _ w2 ⟨rfl, b2⟩
        go_wp2_with fail
        go_ret
        exact ⟨rfl, HW1.out.trans (b2.mono HW1.out.size)⟩
      have h60d : decide ((60 : Int) < (l.length : Int)) = false := by simp; omega
      have C2 := Lib.hid (ordered_any ai l.length ci l RL1.out.now (by omega) HOKL.out)
      go_wp2_with fail
      go_at_call 7
      refine C2.out.mono ?_
      rintro _ w2 ⟨t, rfl, ht, b2⟩
      have HB3 := Lib.hid (HB2.out.trans (b2.mono HB2.out.size))
      have HW2 := Lib.hid (HB1.out.trans (HB3.out.mono HB1.out.size))
      clear C2 b2
      cases t with
      | false =>
        clear ht
        go_wp2_with fail
        go_at_call 8
        refine (HAL.out _).mono ?_
        rintro _ w3 ⟨rfl, b3⟩
        go_wp2_with fail
        go_ret
        exact ⟨rfl, HW2.out.trans (b3.mono HW2.out.size)⟩
      | true =>
      have HS := Lib.hid (ord_pair (ht rfl))
      have HGN := Lib.hid (show ∀ j l, j < i + 1 → [A, B, C][j]? = some l → l.length ≤ 60 ∧ l.Pairwise ltE ∧ ∀ x ∈ l, x.Short from fun j l' hj hjl => by
        by_cases h : j < i
        · exact HG.out j l' h hjl
        · obtain rfl : j = i := by omega
          rw [HMEM.out] at hjl
          cases hjl
          exact ⟨by omega, HS.out, HSH.out⟩)
      clear ht
      go_wp2_with fail
      go_roundw
      case rel => exact ⟨i + 1, by go_num, by omega, HGN, HB3⟩
      case measure => simp [intOf]; omega
    · obtain rfl : i = 3 := by omega
      have hbo : Below w.heap.size w wo := HB1.out.trans (HB.out.mono HB1.out.size)
      have HW1 := Lib.hid hbo
      have RA1 := Lib.hid (RA.out.next hbo)
      have RB1 := Lib.hid (RB.out.next hbo)
      have RC1 := Lib.hid (RC.out.next hbo)
      have gl : ∀ j l, j < 3 → [A, B, C][j]? = some l → l ∈ [A, B, C] → GoodL l := fun j l hj h hm => ⟨(HG.out j l hj h).2.1, fun x hx => ⟨(HOK.out l hm).1 x hx, (HG.out j l hj h).2.2 x hx⟩, by have := (HG.out j l hj h).1; omega⟩
      have gA0 : GoodL A := gl 0 A (by omega) rfl (by simp)
      have gB0 : GoodL B := gl 1 B (by omega) rfl (by simp)
      have gC0 : GoodL C := gl 2 C (by omega) rfl (by simp)
      have lA : A.length ≤ 60 := (HG.out 0 A (by omega) rfl).1
      have lB : B.length ≤ 60 := (HG.out 1 B (by omega) rfl).1
      have lC : C.length ≤ 60 := (HG.out 2 C (by omega) rfl).1
      have okAB : ∀ x ∈ A ++ B, x.Fine := fun x hx => (List.mem_append.1 hx).elim (gA0.2.1 x) (gB0.2.1 x)
      have okBC : ∀ x ∈ B ++ C, x.Fine := fun x hx => (List.mem_append.1 hx).elim (gB0.2.1 x) (gC0.2.1 x)
      have okR : ∀ x ∈ A ++ B ++ C, x.Fine := fun x hx => (List.mem_append.1 hx).elim (okAB x) (gC0.2.1 x)
      have GAB := Lib.hid (goodL_all okAB (by rw [List.length_append]; omega))
      have GBC := Lib.hid (goodL_all okBC (by rw [List.length_append]; omega))
      have GR := Lib.hid (goodL_all okR (by rw [List.length_append, List.length_append]; omega))
      have GA := Lib.hid gA0
      have GB := Lib.hid gB0
      have GC := Lib.hid gC0
      have G0 := Lib.hid (show GoodL [] from ⟨List.Pairwise.nil, (fun x hx => by cases hx), by simp⟩)
      have E1 := Lib.hid (show allE (allE (A ++ B) ++ C) = allE (A ++ B ++ C) from allE_left _ _)
      have E2 := Lib.hid (show allE (A ++ allE (B ++ C)) = allE (A ++ B ++ C) by rw [allE_right, List.append_assoc])
      have E3 := Lib.hid (show allE (A ++ [] ++ A) = A by rw [List.append_nil]; exact allE_twice gA0.1)
      clear gl gA0 gB0 gC0 lA lB lC okAB okBC okR HG HL HOK RA RB RC hbo
      generalize hAB : allE (A ++ B) = AB at GAB E1
      generalize hBC : allE (B ++ C) = BC at GBC E2
      generalize hR : allE (A ++ B ++ C) = R at GR E1 E2
      have C1 := Lib.hid (all_three HCA.out (c := ka) (d := kb) (g := kc) RA1.out.now RB1.out.now RC1.out.now HKA.out HKB.out HKC.out GA.out GB.out GC.out)
      rw [hR] at C1
      have HAB := Lib.hid hAB
      have HBC := Lib.hid hBC
      clear hR hAB hBC
      go_wp2_with fail
      go_at_call 11
      refine C1.out.mono ?_
      rintro _ w2 ⟨pr, cr, rfl, hE2, b2, -⟩
      have HW2 := Lib.hid (HW1.out.trans (b2.mono HW1.out.size))
      clear HW1
      have RR2 := Lib.hid (reads_of hE2)
      have RA2 := Lib.hid (RA1.out.next b2)
      have RB2 := Lib.hid (RB1.out.next b2)
      have RC2 := Lib.hid (RC1.out.next b2)
      clear C1 hE2 b2 RA1 RB1 RC1
      go_wp2_with fail
      go_at_call 8
      refine (HAL.out _).mono ?_
      rintro _ w3 ⟨rfl, b3⟩
      have HW3 := Lib.hid (HW2.out.trans (b3.mono HW2.out.size))
      clear HW2
      have RR3 := Lib.hid (RR2.out.next b3)
      have RA3 := Lib.hid (RA2.out.next b3)
      have RB3 := Lib.hid (RB2.out.next b3)
      have RC3 := Lib.hid (RC2.out.next b3)
      clear RR2 RA2 RB2 RC2 b3
      have C2 := Lib.hid (all_two HCA.out (c := ka) (d := kb) RA3.out.now RB3.out.now HKA.out HKB.out GA.out GB.out)
      rw [HAB.out] at C2
      go_wp2_with fail
      go_at_call 11
      refine C2.out.mono ?_
      rintro _ w4 ⟨p4, c4, rfl, hE4, b4, hk4⟩
      have HK4 := Lib.hid hk4
      clear hk4
      have HW4 := Lib.hid (HW3.out.trans (b4.mono HW3.out.size))
      clear HW3
      have RQ4 := Lib.hid (reads_of hE4)
      have RR4 := Lib.hid (RR3.out.next b4)
      have RA4 := Lib.hid (RA3.out.next b4)
      have RB4 := Lib.hid (RB3.out.next b4)
      have RC4 := Lib.hid (RC3.out.next b4)
      clear RR3 RA3 RB3 RC3 b4 hE4 C2
      have C3 := Lib.hid (all_two HCA.out (c := c4) (d := kc) RQ4.out.now RC4.out.now HK4.out HKC.out GAB.out GC.out)
      rw [E1.out] at C3
      go_wp2_with fail
      go_at_call 11
      refine C3.out.mono ?_
      rintro _ w5 ⟨p5, c5, rfl, hE5, b5, -⟩
      have HW5 := Lib.hid (HW4.out.trans (b5.mono HW4.out.size))
      clear HW4
      have RQ5 := Lib.hid (reads_of hE5)
      have RR5 := Lib.hid (RR4.out.next b5)
      have RA5 := Lib.hid (RA4.out.next b5)
      have RB5 := Lib.hid (RB4.out.next b5)
      have RC5 := Lib.hid (RC4.out.next b5)
      clear C3 hE5 RQ4 RR4 RA4 RB4 RC4 b5
      have hlR : R.length ≤ 1000000 := Nat.le_trans GR.out.2.2 (by omega)
      have hlA2 : A.length ≤ 1000000 := Nat.le_trans GA.out.2.2 (by omega)
      have S1 := Lib.hid (same_ents p5 pr c5 cr R w5 RQ5.out.now RR5.out.now hlR)
      go_wp2_with fail
      go_at_call 10
      refine S1.out.mono ?_
      rintro _ w6 ⟨rfl, b6⟩
      have HW6 := Lib.hid (HW5.out.trans (b6.mono HW5.out.size))
      clear HW5
      have RR6 := Lib.hid (RR5.out.next b6)
      have RA6 := Lib.hid (RA5.out.next b6)
      have RB6 := Lib.hid (RB5.out.next b6)
      have RC6 := Lib.hid (RC5.out.next b6)
      clear S1 RQ5 RR5 RA5 RB5 RC5 b6
      have C4 := Lib.hid (all_two HCA.out (c := kb) (d := kc) RB6.out.now RC6.out.now HKB.out HKC.out GB.out GC.out)
      rw [HBC.out] at C4
      go_wp2_with fail
      go_at_call 11
      refine C4.out.mono ?_
      rintro _ w7 ⟨p7, c7, rfl, hE7, b7, hk7⟩
      have HK7 := Lib.hid hk7
      clear hk7
      have HW7 := Lib.hid (HW6.out.trans (b7.mono HW6.out.size))
      clear HW6
      have RQ7 := Lib.hid (reads_of hE7)
      have RR7 := Lib.hid (RR6.out.next b7)
      have RA7 := Lib.hid (RA6.out.next b7)
      clear C4 hE7 RB6 RC6 RR6 RA6 b7
      have C5 := Lib.hid (all_two HCA.out (c := ka) (d := c7) RA7.out.now RQ7.out.now HKA.out HK7.out GA.out GBC.out)
      rw [E2.out] at C5
      go_wp2_with fail
      go_at_call 11
      refine C5.out.mono ?_
      rintro _ w8 ⟨p8, c8, rfl, hE8, b8, -⟩
      have HW8 := Lib.hid (HW7.out.trans (b8.mono HW7.out.size))
      clear HW7
      have RQ8 := Lib.hid (reads_of hE8)
      have RR8 := Lib.hid (RR7.out.next b8)
      have RA8 := Lib.hid (RA7.out.next b8)
      clear C5 hE8 RQ7 RR7 RA7 b8
      have S2 := Lib.hid (same_ents p8 pr c8 cr R w8 RQ8.out.now RR8.out.now hlR)
      go_wp2_with fail
      go_at_call 10
      refine S2.out.mono ?_
      rintro _ w9 ⟨rfl, b9⟩
      have HW9 := Lib.hid (HW8.out.trans (b9.mono HW8.out.size))
      clear HW8
      have RR9 := Lib.hid (RR8.out.next b9)
      have RA9 := Lib.hid (RA8.out.next b9)
      clear S2 RQ8 RR8 RA8 b9
      have hn9 : EntsAt w9.heap.size w9 none ([] : List Ent).length [] := ⟨rfl, .inl rfl⟩
      have C6 := Lib.hid (all_three HCA.out (c := ka) (d := 0) (g := ka) RA9.out.now hn9 RA9.out.now HKA.out (Nat.le_refl _) HKA.out GA.out G0.out GA.out)
      rw [E3.out] at C6
      clear hn9
      go_wp2_with fail
      go_at_call 11
      refine C6.out.mono ?_
      rintro _ w10 ⟨p10, c10, rfl, hE10, b10, -⟩
      have HW10 := Lib.hid (HW9.out.trans (b10.mono HW9.out.size))
      clear HW9
      have RQ10 := Lib.hid (reads_of hE10)
      have RR10 := Lib.hid (RR9.out.next b10)
      have RA10 := Lib.hid (RA9.out.next b10)
      clear C6 hE10 RR9 RA9 b10
      have S3 := Lib.hid (same_ents p10 pa c10 ka A w10 RQ10.out.now RA10.out.now hlA2)
      go_wp2_with fail
      go_at_call 10
      refine S3.out.mono ?_
      rintro _ w11 ⟨rfl, b11⟩
      have HW11 := Lib.hid (HW10.out.trans (b11.mono HW10.out.size))
      clear HW10
      have RR11 := Lib.hid (RR10.out.next b11)
      clear S3 RQ10 RA10 RR10 b11
      have O1 := Lib.hid (ordered_yes pr R.length cr R RR11.out.now hlR (fun x hx => (GR.out.2.1 x hx).1) GR.out.1)
      go_wp2_with fail
      go_at_call 7
      refine O1.out.mono ?_
      rintro _ w12 ⟨rfl, b12⟩
      have HW12 := Lib.hid (HW11.out.trans (b12.mono HW11.out.size))
      clear b12
      go_wp2_with fail
      go_ret
      exact ⟨rfl, HW12.out⟩
end Go.Proofs.Ytcbailiniigcnaa
