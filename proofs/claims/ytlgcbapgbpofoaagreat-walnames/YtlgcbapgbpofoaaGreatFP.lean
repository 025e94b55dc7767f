/- The contract of (*System).do: its walk. -/
import Derived.Test.YtlgcbapgbpofoaaGreatFO
namespace Go.Proofs.YtlgcbapgbpofoaaGreat
open Go.RowKit

theorem infoChg : (Tryz.prog.info? 205).map (fun i => (i.zero, i.size, i.bytes)) = some (some (.agg #[.string ⟨#[]⟩, .string ⟨#[]⟩, .pointer none]), 3, 40) := by kernel_rfl
theorem one_chg {a b : ByteArray} {o : Option Nat} : ∀ u ∈ [Value.string a, Value.string b, pAt o], u.oneCell' = true := by
  intro u hu
  simp at hu
  rcases hu with rfl | rfl | rfl
  · rfl
  · rfl
  · cases o <;> rfl
set_option maxHeartbeats 2000000 in
set_option maxRecDepth 100000 in
theorem do_any {w : World} {r : Rep} {s : St} (h : Sys w r s) (src dst : ByteArray) (made : Option Nat) (hf : (Chg.mk src.data.toList dst.data.toList made).fits s) (h1 : src.size ≤ 1000) (h2 : dst.size ≤ 1000) (hl : s.now.length ≤ 1000000000) (hp : s.pend.length ≤ 1000000000) :
    Calls Tryz.prog 175 #[.pointer (some ⟨r.p, 0, none⟩), .agg #[.string src, .string dst, pAt (made.map r.at)]] w fun e w' => e = .returned (.tuple #[]) ∧ Next w r (s.doing ⟨src.data.toList, dst.data.toList, made⟩) w' := by
  obtain ⟨q, hq⟩ : ∃ q, pAt (made.map r.at) = q := ⟨_, rfl⟩
  rw [hq]
  have hpl : r.p < w.heap.size := h.lt _ (by simp [Rep.foot])
  go_enter Tryz.func175, Tryz.ntmps175
  go_wp2
  go_region_held3 (fun w' => w'.cell? ⟨w.heap.size, 0, none⟩ = some (.string src) ∧ w'.cell? ⟨w.heap.size, 1, none⟩ = some (.string dst)) (first | go_keep | exact ⟨cell_new k20, cell_set k21 (by decide)⟩ | exact ⟨cell_set (cell_new k20) (by decide), cell_new (cell_set k21 (by decide))⟩) (first | (go_at_call 232; first | ((with_reducible refine (sclone_any src _ (by omega)).mono ?_); rintro e w1 ⟨rfl, hb1⟩; have hz1 := hb1.size; have k10 : w1.cell? ⟨w.heap.size, 0, none⟩ = some (.string src) := (hb1.cell (p := ⟨w.heap.size, 0, none⟩) (by simp)).trans (by simp); have f10 : w1.frozen? ⟨w.heap.size, 0, none⟩ = false := (hb1.frozen (p := ⟨w.heap.size, 0, none⟩) (by simp)).trans (by simp); have k11 : w1.cell? ⟨w.heap.size, 1, none⟩ = some (.string dst) := (hb1.cell (p := ⟨w.heap.size, 1, none⟩) (by simp)).trans (by simp); have f11 : w1.frozen? ⟨w.heap.size, 1, none⟩ = false := (hb1.frozen (p := ⟨w.heap.size, 1, none⟩) (by simp)).trans (by simp); have k12 : w1.cell? ⟨w.heap.size, 2, none⟩ = some (q) := (hb1.cell (p := ⟨w.heap.size, 2, none⟩) (by simp)).trans (by simp); simp at hz1) | ((with_reducible refine (sclone_any dst _ (by omega)).mono ?_); rintro e w2 ⟨rfl, hb2⟩; have hz2 := hb2.size; have k20 : w2.cell? ⟨w.heap.size, 0, none⟩ = some (.string src) := (hb2.cell (p := ⟨w.heap.size, 0, none⟩) (show w.heap.size < w1.heap.size by omega)).trans (by assumption); have f20 : w2.frozen? ⟨w.heap.size, 0, none⟩ = false := (hb2.frozen (p := ⟨w.heap.size, 0, none⟩) (show w.heap.size < w1.heap.size by omega)).trans (by assumption); have k21 : w2.cell? ⟨w.heap.size, 1, none⟩ = some (.string dst) := (hb2.cell (p := ⟨w.heap.size, 1, none⟩) (show w.heap.size < w1.heap.size by omega)).trans (by assumption); have f21 : w2.frozen? ⟨w.heap.size, 1, none⟩ = false := (hb2.frozen (p := ⟨w.heap.size, 1, none⟩) (show w.heap.size < w1.heap.size by omega)).trans (by assumption); have k22 : w2.cell? ⟨w.heap.size, 2, none⟩ = some (q) := (hb2.cell (p := ⟨w.heap.size, 2, none⟩) (show w.heap.size < w1.heap.size by omega)).trans (by assumption))))
  have ht3 : Turn [] w ((w2.setCell ⟨w.heap.size, 0, none⟩ (.string src)).setCell ⟨w.heap.size, 1, none⟩ (.string dst)) :=
    (((((Turn.refl [] w).alloc _).drew.trans (turn_of_below (F := []) hb1) (by simp)).trans (turn_of_below (F := []) hb2) (by simp)).setCell (.inr (Nat.le_refl _)) _).setCell (.inr (Nat.le_refl _)) _
  have k30 : ((w2.setCell ⟨w.heap.size, 0, none⟩ (.string src)).setCell ⟨w.heap.size, 1, none⟩ (.string dst)).cell? ⟨w.heap.size, 0, none⟩ = some (.string src) := cell_set (cell_new k20) (by decide)
  have k31 : ((w2.setCell ⟨w.heap.size, 0, none⟩ (.string src)).setCell ⟨w.heap.size, 1, none⟩ (.string dst)).cell? ⟨w.heap.size, 1, none⟩ = some (.string dst) := cell_new (cell_set k21 (by decide))
  have k32 : ((w2.setCell ⟨w.heap.size, 0, none⟩ (.string src)).setCell ⟨w.heap.size, 1, none⟩ (.string dst)).cell? ⟨w.heap.size, 2, none⟩ = some q := cell_set (cell_set k22 (by decide)) (by decide)
  have hz3 : w.heap.size < ((w2.setCell ⟨w.heap.size, 0, none⟩ (.string src)).setCell ⟨w.heap.size, 1, none⟩ (.string dst)).heap.size := by simp; omega
  generalize ((w2.setCell ⟨w.heap.size, 0, none⟩ (.string src)).setCell ⟨w.heap.size, 1, none⟩ (.string dst)) = w3 at *
  have hs3 := Lib.hid (h.turned ht3 (by simp))
  have c6 := hs3.out.c6
  have c8 := hs3.out.c8
  have hpl3 : r.p < w3.heap.size := hs3.out.lt _ (by simp [Rep.foot])
  have hne0 : w.heap.size ∉ [r.mn] := by
    have := h.lt r.mn (by simp [Rep.foot])
    simp
    omega
  have hnpv : ∀ k, ob r.pv = some k → k ∉ [r.mn] := by
    intro k hk
    have := h.apart
    simp [Rep.foot, Rep.rest, hk] at this ⊢
    exact fun e => this.2.1.2.1 e.symm
  have hne2 : some r.p ≠ ob r.pv := by
    intro e
    have := h.apart
    simp [Rep.foot, Rep.rest, ← e] at this
  have hne1 : r.p ∉ [r.mn] := by
    have := h.apart
    simp [Rep.foot] at this ⊢
    exact this.1.1
  go_wp2
  have hdo := Lib.hid (fun W (hW : DirAt W r.mn (mapD r.at s.now)) => chg_do r.mn (mapD r.at s.now) src dst (made.map r.at) W hW h1 h2 (by unfold mapD; simpa using hl) (able_map hf.able))
  rw [hq] at hdo
  have hmn := hs3.out.now
  clear hb1 hb2 hz1 hz2 k10 k11 k12 k20 k21 k22 f10 f11 f20 f21
  go_region_held3 (fun w' => w'.cell? ⟨w.heap.size, 0, none⟩ = some (.string src) ∧ w'.cell? ⟨w.heap.size, 1, none⟩ = some (.string dst) ∧ w'.cell? ⟨w.heap.size, 2, none⟩ = some q ∧ w'.cell? ⟨r.p, 6, none⟩ = some (.map (some r.mn))) (first | go_keep | exact ⟨k40, k41, k42, k46⟩) (first | (go_at_call 228; refine (hdo.out _ (by exact hmn.kept rfl)).mono ?_; rintro e w4 ⟨rfl, hd4, ht4⟩; have ht4' : Turn [r.mn] w3 w4 := (Turn.refl _ _).drew.trans ht4 (fun x hx => .inl hx); have k40 : w4.cell? ⟨w.heap.size, 0, none⟩ = some (.string src) := (ht4'.cell hz3 hne0).trans k30; have k41 : w4.cell? ⟨w.heap.size, 1, none⟩ = some (.string dst) := (ht4'.cell hz3 hne0).trans k31; have k42 : w4.cell? ⟨w.heap.size, 2, none⟩ = some q := (ht4'.cell hz3 hne0).trans k32; have k46 : w4.cell? ⟨r.p, 6, none⟩ = some (.map (some r.mn)) := (ht4'.cell hpl3 hne1).trans c6))
  have k48 : w4.cell? ⟨r.p, 8, none⟩ = some r.pv := (ht4'.cell hpl3 hne1).trans c8
  have f48 : w4.frozen? ⟨r.p, 8, none⟩ = false := (ht4'.frozen hpl3 hne1).trans (hs3.out.warm 8)
  clear c6 c8 k30 k31 k32 k46
  have hrow4 : Row w4 205 3 r.pv s.pend.length (s.pend.flatMap (chgCells r.at)) := (hs3.out.pend).kept fun k hk => ht4'.block k (hs3.out.pend.lt k hk) (hnpv k hk)
  have HR := Lib.hid (fun o => hrow4.kept (w' := (w4.alloc o).drew) fun k hk => Below.heap_alloc w4 o k (hrow4.lt k hk))
  have HSrc := Lib.hid (Src.ofSlice (P := Tryz.prog) (w4.alloc (.cells #[.string src, .string dst, q] 205)).drew (size := 3) Tryz.underlying165 ⟨w4.heap.size, 0, none⟩ 1 1 [.string src, .string dst, q] rfl (fun j u hu => by
    match j, hu with
    | 0, hu => simpa [Addr.add] using hu
    | 1, hu => simpa [Addr.add] using hu
    | 2, hu => simpa [Addr.add] using hu) (by rw [← hq]; exact one_chg))
  have HB1 := Lib.hid (show s.pend.length + 1 ≤ maxLen by unfold maxLen; omega)
  have HB2 := Lib.hid (show (s.pend.length + 1) * 40 ≤ 140737488355328 by omega)
  obtain ⟨i0, hi, hz0, hzs, hzb⟩ := info_parts infoChg
  have hpl4 : r.p < w4.heap.size := Nat.lt_of_lt_of_le hpl3 ht4'.size
  have k58' : ∀ o, (w4.alloc o).cell? ⟨r.p, 8, none⟩ = some r.pv := fun o => (World.cell?_of_block (Below.heap_alloc w4 o r.p hpl4)).trans k48
  have f58' : ∀ o, (w4.alloc o).frozen? ⟨r.p, 8, none⟩ = false := fun o => (World.frozen?_of_block (Below.heap_alloc w4 o r.p hpl4)).trans f48
  go_wp2
  go_region_law (refine step_append_row _ rfl (.tmp 22) (.tmp 24) 165 165 rfl 205 i0 _ 3 40 Tryz.underlying165 hi hz0 hzs hzb rfl r.pv _ _ (by simp [Act.eval]) (HR.out _) _ (by simp [Act.eval]) 1 _ HSrc.out HB1.out HB2.out ?_; intro v' w5 hrow5 hgrow5 hob5; obtain ⟨a5, c5, rfl, -, -⟩ := hrow5.le; have k58 : w5.cell? ⟨r.p, 8, none⟩ = some r.pv := hgrow5.cell (a := ⟨r.p, 8, none⟩) (by simp [k58']) hne2; have f58 : w5.frozen? ⟨r.p, 8, none⟩ = false := (World.frozen?_of_block (hgrow5.block r.p (by simp; omega) hne2)).trans (by simp [f58']))
  all_goals go_wp2
  all_goals go_end0
  all_goals
    refine ⟨rfl, do_end h ht3 ht4' hd4 ((Turn.refl [] w4).alloc _).drew hgrow5 ?_ hob5 hf⟩
    rw [show chgCells r.at ⟨src.data.toList, dst.data.toList, made⟩ = [Value.string src, Value.string dst, q] by unfold chgCells; rw [hq]]
    exact hrow5
end Go.Proofs.YtlgcbapgbpofoaaGreat
