/- All of what is pending again: redo. -/
import Derived.Test.YtlgcbapgbpofoaaGreatFI
namespace Go.Proofs.YtlgcbapgbpofoaaGreat
open Go.RowKit

theorem chg_cell {f : Nat → Nat} : ∀ (cs : List Chg) (k : Nat) (h : k < cs.length) (j : Nat), j < 3 → (cs.flatMap (chgCells f))[k * 3 + j]? = (chgCells f cs[k])[j]?
  | [], _, h, _, _ => by cases h
  | c :: cs, 0, _, j, hj => by
    rw [List.flatMap_cons, Nat.zero_mul, Nat.zero_add, List.getElem?_append_left (by simpa [chgCells] using hj)]
    rfl
  | c :: cs, k + 1, h, j, hj => by
    have hl : (chgCells f c).length = 3 := rfl
    rw [List.flatMap_cons, List.getElem?_append_right (by rw [hl]; omega), hl, show (k + 1) * 3 + j - 3 = k * 3 + j by omega]
    exact chg_cell cs k (by simpa using h) j hj
theorem able_at : ∀ (cs : List Chg) (d : Dir) (k : Nat) (h : k < cs.length), able d cs → (cs[k]).able (redo d (cs.take k))
  | c :: cs, d, 0, _, ha => ha.1
  | c :: cs, d, k + 1, h, ha => able_at cs (c.run d) k (by simpa using h) ha.2
theorem redo_take (cs : List Chg) (d : Dir) (k : Nat) (h : k < cs.length) : redo d (cs.take (k + 1)) = (cs[k]).run (redo d (cs.take k)) := by
  rw [List.take_succ_eq_append_getElem h, redo_snoc]
theorem pAt_ptr (o : Option Nat) : ∃ a, pAt o = .pointer a := by cases o <;> exact ⟨_, rfl⟩
set_option maxHeartbeats 2000000 in
set_option maxRecDepth 100000 in
theorem redo_any (b : Nat) (d : Dir) (v : Value) (cs : List Chg) (f : Nat → Nat) (w : World) (hd : DirAt w b d) (hrow : Row w 205 3 v cs.length (cs.flatMap (chgCells f))) (ha : able d (cs.map (Chg.map f))) (hs : ∀ c ∈ cs, c.src.length ≤ 1000 ∧ c.dst.length ≤ 1000) (hdl : d.length + cs.length ≤ 1000000000) :
    Calls Tryz.prog 167 #[.map (some b), v] w fun e w' => e = .returned (.map (some w.heap.size)) ∧ DirAt w' w.heap.size (redo d (cs.map (Chg.map f))) ∧ Below w.heap.size w w' := by
  have HC := Lib.hid (dclone_any b d w hd)
  obtain ⟨a, cap, hv, hcap, hcm⟩ := hrow.le
  have hcell := hrow.cell
  subst hv
  have hlen : cs.length ≤ 1000000000 := by omega
  go_enter Tryz.func167, Tryz.ntmps167
  go_wp2_with (go_at_call 227; refine HC.out.mono ?_; rintro e w1 ⟨rfl, hd1, hb1, hz1⟩)
  go_loopw [6, 11] (fun _ iv wr => ∃ k : Nat, k ≤ cs.length ∧ iv = .int .i64 (k : Int) ∧ DirAt wr w.heap.size (redo d ((cs.map (Chg.map f)).take k)) ∧ Below w.heap.size w wr)
    (fun _ iv _ => cs.length - (intOf iv).toNat)
  case atStart => exact ⟨0, Nat.zero_le _, rfl, hd1, hb1⟩
  case round =>
    obtain ⟨k, hk, rfl, hdk, hbk⟩ := hrel
    by_cases hlt : k < cs.length
    · have hne : ∃ g o, a = some ⟨g, o, none⟩ := by
        rcases hrow.2 with ⟨h0, -⟩ | ⟨g, c, cur, hv, -⟩
        · omega
        · cases hv
          exact ⟨g, 0, rfl⟩
      obtain ⟨g, o, rfl⟩ := hne
      have hgl : g < w.heap.size := World.block_lt_of_cell? w ⟨g, o + (k * 3 + 0), none⟩ (hcell g o cap rfl (k * 3 + 0) _ (chg_cell cs k hlt 0 (by omega)))
      have q0 : wr.cell? ⟨g, o + k * 3, none⟩ = some (.string ⟨(cs[k]).src.toArray⟩) := (hbk.cell (p := ⟨g, o + k * 3, none⟩) hgl).trans (hcell g o cap rfl (k * 3 + 0) _ (chg_cell cs k hlt 0 (by omega)))
      have q1 : wr.cell? ⟨g, o + k * 3 + 1, none⟩ = some (.string ⟨(cs[k]).dst.toArray⟩) := (hbk.cell (p := ⟨g, o + k * 3 + 1, none⟩) hgl).trans (hcell g o cap rfl (k * 3 + 1) _ (chg_cell cs k hlt 1 (by omega)))
      have q2 : wr.cell? ⟨g, o + k * 3 + 2, none⟩ = some (pAt ((cs[k]).made.map f)) := (hbk.cell (p := ⟨g, o + k * 3 + 2, none⟩) hgl).trans (hcell g o cap rfl (k * 3 + 2) _ (chg_cell cs k hlt 2 (by omega)))
      have hk' : k < (cs.map (Chg.map f)).length := by simpa using hlt
      have hab := able_at _ d k hk' ha
      have htk := Lib.hid (redo_take (cs.map (Chg.map f)) d k hk')
      have hgetm : (cs.map (Chg.map f))[k] = Chg.map f cs[k] := by simp
      rw [hgetm] at hab htk
      have hsk := hs cs[k] (List.getElem_mem hlt)
      have hrl : (redo d ((cs.map (Chg.map f)).take k)).length ≤ 1000000000 := by
        have h1 := redo_length ((cs.map (Chg.map f)).take k) d
        have h2 : ((cs.map (Chg.map f)).take k).length ≤ cs.length := by simp; omega
        omega
      have hdo := Lib.hid (fun W hW => chg_do w.heap.size (redo d ((cs.map (Chg.map f)).take k)) ⟨(cs[k]).src.toArray⟩ ⟨(cs[k]).dst.toArray⟩ ((cs[k]).made.map f) W hW (by show (cs[k]).src.length ≤ _; omega) (by show (cs[k]).dst.length ≤ _; omega) hrl hab)
      obtain ⟨pa, hpa⟩ := pAt_ptr ((cs[k]).made.map f)
      rw [hpa] at q2 hdo
      obtain ⟨X, hX⟩ : ∃ X : ByteArray, X = ⟨(cs[k]).src.toArray⟩ := ⟨_, rfl⟩
      obtain ⟨Y, hY⟩ : ∃ Y : ByteArray, Y = ⟨(cs[k]).dst.toArray⟩ := ⟨_, rfl⟩
      rw [← hX] at q0 hdo
      rw [← hY] at q1 hdo
      have HX := Lib.hid (show Chg.mk X.data.toList Y.data.toList ((cs[k]).made.map f) = Chg.map f cs[k] by rw [hX, hY]; rfl)
      clear hX hY
      clear hgetm hpa hab hsk hrl hcell
      go_wp2_with (go_at_call 228; refine (hdo.out _ (by exact hdk.kept (Below.heap_alloc wr _ _ hdk.lt))).mono ?_; rintro e w3 ⟨rfl, hd3, ht3⟩)
      refine ⟨⟨k + 1, by omega, by go_num, ?_, ?_⟩, by simp [intOf]; omega⟩
      · rw [htk.out, ← HX.out]
        exact hd3
      · have hz := hbk.size
        exact (hbk.alloc hz _).trans (ht3.below (by simp; omega) (by simp))
    · obtain rfl : k = cs.length := by omega
      go_wp2
      go_ret
      refine ⟨rfl, ?_, hbk⟩
      rwa [List.take_of_length_le (by simp)] at hdk
end Go.Proofs.YtlgcbapgbpofoaaGreat
