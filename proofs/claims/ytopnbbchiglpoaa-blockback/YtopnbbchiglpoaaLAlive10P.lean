/- The statements' first call of chapter 10, at a seat without the Book, over the contracts of block.Put, Get, Seek, Shared. -/
import Derived.Test.YtopnbbchiglpoaaBQ
import Derived.Test.YtopnbbchiglpoaaBSA
namespace Go.Proofs.Ytopnbbchiglpoaa
open Go.ChangeShapes Go.WideShapes Go.ChangeAt Go.Deep Go.RowKit

def elOf (x : Ent) : ElEntries := ⟨x.k, x.s.toNat, x.n, x.v⟩
theorem elOf_cells {x : Ent} (h : 0 ≤ x.s) : (elOf x).cells = x.cells := by
  show [Value.string x.k, .int .u64 ((x.s.toNat : Nat) : Int), .int .i64 x.n, .string x.v] = [.string x.k, .int .u64 x.s, .int .i64 x.n, .string x.v]
  rw [Int.toNat_of_nonneg h]
theorem sameE_any (a0 a1 : Option Addr) (cap0 cap : Nat) (es : List Ent) (w : World) (h0 : EntsAt w.heap.size w a0 es.length es) (h1 : EntsAt w.heap.size w a1 es.length es) (hp : ∀ x ∈ es, 0 ≤ x.s) (hl : es.length ≤ 1000000) :
    Calls Try.prog 10 #[.slice a0 es.length cap0, .slice a1 es.length cap] w fun e w' => e = .returned (.bool true) ∧ ∃ n, w' = w.drewN n := by
  have hm : (es.map elOf).length = es.length := by simp
  rcases h0.2 with hz | ⟨g, off0, rfl, -, c0⟩
  · rw [hz]; exact sameEntries_none a0 a1 cap0 cap w
  · rcases h1.2 with hz | ⟨b, off, rfl, -, c1⟩
    · rw [hz]; exact sameEntries_none _ a1 cap0 cap w
    · have := sameEntries_some g off0 cap0 b off cap (es.map elOf) w (by rw [hm]; exact hl)
        (fun i h j u hu => c0 i (by rw [hm] at h; exact h) j u (by rw [List.getElem_map, elOf_cells (hp _ (List.getElem_mem _))] at hu; exact hu))
        (fun i h j u hu => c1 i (by rw [hm] at h; exact h) j u (by rw [List.getElem_map, elOf_cells (hp _ (List.getElem_mem _))] at hu; exact hu))
      rw [hm] at this
      exact this
def es0 : List Ent := [⟨⟨#[97]⟩, 2, 1, ⟨#[]⟩⟩, ⟨⟨#[97]⟩, 1, 1, ⟨#[]⟩⟩, ⟨⟨#[98]⟩, 1, 2, ⟨#[]⟩⟩]
theorem es0_ok : ∀ x ∈ es0, x.Ok := by
  intro x hx
  simp only [es0, List.mem_cons, List.not_mem_nil, or_false] at hx
  rcases hx with rfl | rfl | rfl <;> exact ⟨by unfold maxLen; show 1 ≤ _; omega, by show (0 : Int) ≤ _; decide, by decide, by decide, by decide, by unfold maxLen; show 0 ≤ _; omega⟩
theorem es0_size : sizeEs es0 = 3 := rfl
theorem es0_ord : ordB es0 es0.length = true := by kernel_rfl
theorem es0_put : ∃ Z : ByteArray, putBV es0 = .tuple #[.string Z, .int .i64 0] ∧ Z.size ≤ 6004 ∧ getE Z.data.toList = (0, es0) := by
  refine ⟨⟨(blkB es0).toArray⟩, by unfold putBV; rw [es0_ord]; rfl, ?_, ?_⟩
  · rw [str_size]
    have h1 := bodyB_len es0 (by rw [es0_size]; omega) (fun i hi => by
      have h := es0_ok _ (List.getElem_mem hi)
      rw [entAt_get hi]
      obtain ⟨-, h2, h3, h4, h5, -⟩ := h
      omega) 3 (Nat.le_refl 3)
    have h2 := sizeEs_le es0 3
    have h3 := tailB_cnt es0 3
    unfold blkB sealF
    simp only [List.length_append, be_length]
    rw [es0_size] at h2
    show (bodyB es0 3).length + (tailB es0 3).length + 4 + 4 ≤ 6004
    omega
  · show getE (blkB es0) = _
    exact getE_laid es0 (by show 3 ≤ _; omega) es0_ord (fun x hx => ⟨(es0_ok x hx).2.1, (es0_ok x hx).2.2.1⟩)
theorem inRange_open (lo : ByteArray) (e : Ent) : inRange lo ⟨#[]⟩ e = !(lessB e.k lo) := by
  unfold inRange
  have : (⟨#[]⟩ : ByteArray).toList.isEmpty = true := by rw [ByteArray.toList_eq]; rfl
  rw [this]
  simp
theorem es0_range : rangeE ⟨#[98]⟩ ⟨#[]⟩ es0 = [⟨⟨#[98]⟩, 1, 2, ⟨#[]⟩⟩] := by
  unfold rangeE
  rw [show inRange ⟨#[98]⟩ ⟨#[]⟩ = fun e => !(lessB e.k ⟨#[98]⟩) from funext (inRange_open _)]
  kernel_rfl
set_option maxHeartbeats 8000000 in
set_option maxRecDepth 100000 in
theorem alive10 (w : World) : Calls Try.prog 6 #[] w fun e w' => e = .returned (.bool true) ∧ Below w.heap.size w w' := by
  obtain ⟨Z, hZ, hZs, hZg⟩ := es0_put
  obtain ⟨W, hW⟩ : ∃ W, w.alloc (.cells #[.string ⟨#[97]⟩, .int .u64 2, .int .i64 1, .string ⟨#[]⟩, .string ⟨#[97]⟩, .int .u64 1, .int .i64 1, .string ⟨#[]⟩, .string ⟨#[98]⟩, .int .u64 1, .int .i64 2, .string ⟨#[]⟩] 34) = W := ⟨_, rfl⟩
  have hcells : ∀ j u, (cellsE es0)[j]? = some u → W.cell? ⟨w.heap.size, j, none⟩ = some u := fun j u hu => by
    rw [← hW]
    refine nce rfl ?_
    rw [List.getElem?_toArray]
    exact hu
  have hlw : w.heap.size < W.heap.size := by rw [← hW]; simp
  have hEW : EntsAt W.heap.size W (some ⟨w.heap.size, 0, none⟩) 3 es0 := ⟨rfl, .inr ⟨w.heap.size, 0, rfl, hlw, fun i hi j u hu => by
    rw [Nat.zero_add]
    exact hcells _ u (cellsE_get es0 i hi j u hu)⟩⟩
  have HBW := Lib.hid (show Below w.heap.size w W by rw [← hW]; exact (Below.refl _ _).alloc (Nat.le_refl _) _)
  have HEW := Lib.hid hEW
  have HCE := Lib.hid hcells
  have C1 := Lib.hid (putP_any (w := W) (some ⟨w.heap.size, 0, none⟩) 3 3 es0 hEW (by omega) (by omega) es0_ok (by rw [es0_size]; omega))
  rw [hZ] at C1
  generalize hL : w.heap.size = lb at *
  clear hZ hcells hEW
  go_enter Try.func6, Try.ntmps6
  go_wp2_with fail
  go_at_call 7
  refine C1.out.mono ?_
  rintro _ w1 ⟨rfl, b1⟩
  have C2 := Lib.hid (getP_any Z w1 hZs)
  unfold GotB at C2
  rw [hZg] at C2
  go_wp2_with fail
  go_at_call 8
  refine C2.out.mono ?_
  rintro _ w2 ⟨vm, rfl, rm, nm, -, b2⟩
  have C3 := Lib.hid (seekP_any Z ⟨#[98]⟩ w2 hZs)
  unfold SeekB at C3
  rw [hZg, es0_range] at C3
  have HRM := Lib.hid rm
  have HNM := Lib.hid nm
  have HB2 := Lib.hid (b1.trans (b2.mono b1.size))
  clear C1 C2 rm nm b1 b2
  go_wp2_with fail
  go_at_call 9
  refine C3.out.mono ?_
  rintro _ w3 ⟨vn, rfl, rn, -, -, b3⟩
  have HB3 := Lib.hid (HB2.out.trans (b3.mono HB2.out.size))
  have HRM3 := Lib.hid (row_below HRM.out b3)
  obtain ⟨gn, cn, rfl, hcn, hgn, hcells⟩ : ∃ g cap, vn = .slice (some ⟨g, 0, none⟩) 1 cap ∧ 1 ≤ cap ∧ g < w3.heap.size ∧ ∀ j u, (cellsE [(⟨⟨#[98]⟩, 1, 2, ⟨#[]⟩⟩ : Ent)])[j]? = some u → w3.cell? ⟨g, j, none⟩ = some u := by
    rcases row_own rn (fun e => by cases e) with ⟨-, h⟩ | ⟨g, cap, h1, h2, -, h4, h5⟩
    · cases h
    · exact ⟨g, cap, h1, h2, h4, h5⟩
  have q0 : w3.cell? ⟨gn, 0, none⟩ = some (.string ⟨#[98]⟩) := hcells 0 _ rfl
  have q1 : w3.cell? ⟨gn, 1, none⟩ = some (.int .u64 1) := hcells 1 _ rfl
  have q2 : w3.cell? ⟨gn, 2, none⟩ = some (.int .i64 2) := hcells 2 _ rfl
  have q3 : w3.cell? ⟨gn, 3, none⟩ = some (.string ⟨#[]⟩) := hcells 3 _ rfl
  have p0 : w3.cell? ⟨lb, 8, none⟩ = some (.string ⟨#[98]⟩) := (HB3.out.cell (p := ⟨lb, 8, none⟩) hlw).trans (HCE.out 8 _ rfl)
  have p1 : w3.cell? ⟨lb, 9, none⟩ = some (.int .u64 1) := (HB3.out.cell (p := ⟨lb, 9, none⟩) hlw).trans (HCE.out 9 _ rfl)
  have p2 : w3.cell? ⟨lb, 10, none⟩ = some (.int .i64 2) := (HB3.out.cell (p := ⟨lb, 10, none⟩) hlw).trans (HCE.out 10 _ rfl)
  have p3 : w3.cell? ⟨lb, 11, none⟩ = some (.string ⟨#[]⟩) := (HB3.out.cell (p := ⟨lb, 11, none⟩) hlw).trans (HCE.out 11 _ rfl)
  have hl3 : lb < w3.heap.size := Nat.lt_of_lt_of_le hlw HB3.out.size
  have HP := Lib.hid (show ∀ X : World, Below w3.heap.size w3 X → (X.cell? ⟨gn, 0, none⟩ = some (.string ⟨#[98]⟩) ∧ X.cell? ⟨gn, 1, none⟩ = some (.int .u64 1) ∧ X.cell? ⟨gn, 2, none⟩ = some (.int .i64 2) ∧ X.cell? ⟨gn, 3, none⟩ = some (.string ⟨#[]⟩) ∧ X.cell? ⟨lb, 8, none⟩ = some (.string ⟨#[98]⟩) ∧ X.cell? ⟨lb, 9, none⟩ = some (.int .u64 1) ∧ X.cell? ⟨lb, 10, none⟩ = some (.int .i64 2) ∧ X.cell? ⟨lb, 11, none⟩ = some (.string ⟨#[]⟩)) from fun X hX => ⟨(hX.cell (p := ⟨gn, 0, none⟩) hgn).trans q0, (hX.cell (p := ⟨gn, 1, none⟩) hgn).trans q1, (hX.cell (p := ⟨gn, 2, none⟩) hgn).trans q2, (hX.cell (p := ⟨gn, 3, none⟩) hgn).trans q3, (hX.cell (p := ⟨lb, 8, none⟩) hl3).trans p0, (hX.cell (p := ⟨lb, 9, none⟩) hl3).trans p1, (hX.cell (p := ⟨lb, 10, none⟩) hl3).trans p2, (hX.cell (p := ⟨lb, 11, none⟩) hl3).trans p3⟩)
  have hpos : ∀ x ∈ es0, 0 ≤ x.s := fun x hx => (es0_ok x hx).2.1
  obtain ⟨am, cm, rfl, hEm⟩ := row_ents HRM3.out
  have hEl : EntsAt w3.heap.size w3 (some ⟨lb, 0, none⟩) 3 es0 := (HEW.out.below HB3.out).mono HB3.out.size
  have CE := Lib.hid (show ∀ X : World, Below w3.heap.size w3 X → Calls Try.prog 10 #[.slice am es0.length cm, .slice (some ⟨lb, 0, none⟩) 3 3] X fun e w' => e = .returned (.bool true) ∧ ∃ n, w' = X.drewN n from fun X hX => sameE_any am _ cm 3 es0 X ((hEm.below hX).mono hX.size) ((hEl.below hX).mono hX.size) hpos (by show 3 ≤ _; omega))
  have CH := Lib.hid (sharedP_any ⟨#[97, 98, 99]⟩ ⟨#[97, 98, 100]⟩ w3.drew (by show 3 ≤ _; omega) (by show 3 ≤ _; omega))
  rw [show shr (⟨#[97, 98, 99]⟩ : ByteArray).data.toList (⟨#[97, 98, 100]⟩ : ByteArray).data.toList = 2 by kernel_rfl, show ((2 : Nat) : Int) = 2 from rfl] at CH
  have HD := Lib.hid (show Below w3.heap.size w3 w3.drew from ⟨rfl, rfl, rfl, Nat.le_refl _, fun _ _ => rfl⟩)
  have hlW : lb ≤ W.heap.size := by omega
  have HALL := Lib.hid (HBW.out.trans (HB3.out.mono hlW))
  clear C3 HRM HB2 rn b3 hcells hEm hEl HRM3 HNM q0 q1 q2 q3 p0 p1 p2 p3 HBW HB3 HCE HEW
  go_wp2_with fail
  have K3 := HP.out _ HD.out
  go_region_held3 (fun w' => w'.cell? ⟨gn, 0, none⟩ = some (.string ⟨#[98]⟩) ∧ w'.cell? ⟨gn, 1, none⟩ = some (.int .u64 1) ∧ w'.cell? ⟨gn, 2, none⟩ = some (.int .i64 2) ∧ w'.cell? ⟨gn, 3, none⟩ = some (.string ⟨#[]⟩) ∧ w'.cell? ⟨lb, 8, none⟩ = some (.string ⟨#[98]⟩) ∧ w'.cell? ⟨lb, 9, none⟩ = some (.int .u64 1) ∧ w'.cell? ⟨lb, 10, none⟩ = some (.int .i64 2) ∧ w'.cell? ⟨lb, 11, none⟩ = some (.string ⟨#[]⟩))
    (first | with_reducible assumption | with_reducible exact K3 | with_reducible exact K4 | with_reducible exact K5 | go_keep)
    (first
      | (go_at_call 12; (with_reducible refine CH.out.mono ?_); rintro _ w4 ⟨rfl, b4⟩; have HB4 := Lib.hid (HD.out.trans b4); have K4 := HP.out _ HB4.out; clear b4)
      | (go_at_call 10; (with_reducible refine (CE.out _ HB4.out).mono ?_); rintro _ w5 ⟨rfl, n5, hw5⟩; have HB5 := Lib.hid (show Below w3.heap.size w3 w5 by rw [hw5]; exact belowN HB4.out n5); have K5 := HP.out _ HB5.out; clear hw5)
      | fail)
  all_goals go_wp2_with fail
  all_goals go_ret
  all_goals exact ⟨rfl, HALL.out.trans (HB5.out.mono (Nat.le_of_lt hl3))⟩
end Go.Proofs.Ytopnbbchiglpoaa
