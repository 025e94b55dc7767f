/- A file's twin. -/
import Derived.Test.YtfndlfnlepndmaaGreatSC
import Derived.Deep.RegionHeld3
namespace Go.Proofs.YtfndlfnlepndmaaGreat
open Go.RowKit

theorem byteVals_one (l : List UInt8) : ∀ u ∈ byteVals l, u.oneCell' = true := by
  intro u hu
  unfold byteVals at hu
  obtain ⟨b, -, rfl⟩ := List.mem_map.1 hu
  rfl
theorem ctwin_nil (w : World) : Calls Tryz.prog 25 #[.pointer none] w fun e w' => e = .returned (.pointer none) ∧ w = w' := by
  go_enter Tryz.func25, Tryz.ntmps25
  go_wp2
  go_ret
  exact ⟨rfl, rfl⟩
set_option maxHeartbeats 4000000 in
set_option maxRecDepth 100000 in
theorem ctwin_any {w : World} {x : Nat × Value} {f : Fil} (h : FileOk w x f) (hn : f.b.length ≤ 1000000000) :
    Calls Tryz.prog 25 #[.pointer (some ⟨x.1, 0, none⟩)] w fun e w' => ∃ x', e = .returned (.pointer (some ⟨x'.1, 0, none⟩)) ∧ FileOk w' x' f ∧ Below w.heap.size w w' ∧ (∀ k ∈ fFoot x', w.heap.size ≤ k) ∧ (fFoot x').Nodup := by
  have c0 := h.c0
  have c1 := h.c1
  have HC := Lib.hid (fun W (hW : Below w.heap.size w W) => sclone8_any x.2 f.b.length (byteVals f.b) W (h.row.kept (fun k hk => hW.block k (h.row.lt k hk))) hn (byteVals_one _))
  have hlt : x.1 < w.heap.size := (Array.getElem?_eq_some_iff.1 h.cells).1
  have hsyn := Lib.hid h.syn
  obtain ⟨a0, cap0, hx2, -, -⟩ := h.row.le
  rw [hx2] at c0 HC
  clear h hx2
  obtain ⟨x1, x2⟩ := x
  dsimp only at *
  go_enter Tryz.func25, Tryz.ntmps25
  go_wp2
  go_region_held3 (fun w' => w'.cell? ⟨x1, 0, none⟩ = some (.slice a0 f.b.length cap0) ∧ w'.cell? ⟨x1, 1, none⟩ = some (.int .i64 f.syn)) (first | go_keep | exact ⟨k0, k1⟩ | exact ⟨ocell (Nat.lt_of_lt_of_le hlt hb'.size) k0, ocell (Nat.lt_of_lt_of_le hlt hb'.size) k1⟩) (first | (go_at_call 116; refine (HC.out _ (Below.refl _ _).drew).mono ?_; rintro e w' ⟨v', rfl, hrow', hb', hob'⟩; obtain ⟨a5, c5, rfl, -, -⟩ := hrow'.le; have k0 : w'.cell? ⟨x1, 0, none⟩ = some (.slice a0 f.b.length cap0) := (hb'.cell (p := ⟨x1, 0, none⟩) hlt).trans c0; have k1 : w'.cell? ⟨x1, 1, none⟩ = some (.int .i64 f.syn) := (hb'.cell (p := ⟨x1, 1, none⟩) hlt).trans c1) | fail)
  all_goals go_wp2
  all_goals go_ret
  have hbw : Below w.heap.size w w' := ⟨hb'.os, hb'.tape, hb'.output, hb'.size, hb'.block⟩
  refine ⟨(w'.heap.size, .slice a5 f.b.length c5), rfl, ⟨heap_alloc_new w' _, hrow'.kept (fun k hk => Below.heap_alloc w' _ k (hrow'.lt k hk)), hsyn.out⟩, hbw.alloc hbw.size _, ?_, ?_⟩
  · intro k hk
    simp only [fFoot, List.mem_cons, Option.mem_toList] at hk
    rcases hk with rfl | hk
    · exact hbw.size
    · exact hob' k hk
  · cases ho : ob (.slice a5 f.b.length c5) with
    | none => simp [fFoot, ho]
    | some k =>
      have := hrow'.lt k ho
      simp [fFoot, ho]
      omega
end Go.Proofs.YtfndlfnlepndmaaGreat
