/- Parts of stage 8, joined: MV MX MW MI MP MD MZ M8 M9 TI TN. -/
import Derived.Test.YthaalhigmihijabGreatRows
import Derived.Test.YthaalhigmihijabGreatH1
import Derived.WalkKit
import Derived.OwnWalk
import Derived.WalkSpells
import Derived.WalkLawsBesides
import Derived.BigCall
import Derived.Laws.IdiomStrings
import Derived.Laws.BitsAllLaws
import Derived.Lib.VarintMem
import Derived.Lib.Zigzag
import Derived.Lib.VarintDec
import Derived.Lib.Slices
import Derived.Outline
import Derived.Lib.BufferRead
import Derived.Lib.Hide
import Derived.Test.YthaalhigmihijabGreatShelf
import Derived.Lib.AppendIntMem
import Derived.Lib.ItoaLen
import Derived.Lib.VarintBits
import Derived.BigQuiet
import Derived.Deep.QuietTactic
import Derived.Deep.RegionWith
import Derived.ProofKit
import Derived.SliceStrings
import Derived.OpenShut
import Derived.Lib.AppendStr
import Derived.Test.YthaalhigmihijabGreatAkInts
import Derived.Deep.RegionHeld3
import Derived.Deep.DeepCutAuto
import Derived.Deep.CutBlock
import Derived.Deep.CutRange
import Derived.Test.YthaalhigmihijabGreatYF
import Derived.Test.YthaalhigmihijabGreatH2
import Derived.Test.YthaalhigmihijabGreatH3
import Derived.Test.YthaalhigmihijabGreatFr3
namespace Go.Proofs.YthaalhigmihijabGreat
open Go.RowKit
open Go.RowKit Go.ChangeShapes Go.WideShapes Go.ChangeAt

theorem infoByte : (Tryz.prog.info? 5).map (fun i => (i.zero, i.size, i.bytes)) = some (some (.int .u8 0), 1, 1) := by kernel_rfl
theorem conv_own {w : World} {B : Nat} {v : Value} {l : List UInt8} {n : Nat} (h : w.ownsRow B 5 1 v n (Lib.byteCells l)) (hn : n = l.length) :
    (convert 125 9 v).run Tryz.prog w = .ok (.string ⟨l.toArray⟩) w := by
  subst hn
  rcases h.2 with ⟨rfl, h0⟩ | ⟨g, cap, cur, rfl, -, -, -, -, -, -⟩
  · have hl : l = [] := List.eq_nil_of_length_eq_zero h0
    subst hl
    rw [Lib.run_convert_nil_bytes w 125 9 5 0 Tryz.underlying125 Tryz.underlying5 Tryz.underlying9]
  · exact run_convert_bytes_back (P := Tryz.prog) w 125 9 5 ⟨g, 0, none⟩ cap l Tryz.underlying125 Tryz.underlying5 Tryz.underlying9 (fun j hj => h.cells (g := g) rfl j _ (by simp [Lib.byteCells, hj]))
theorem grownBy_of_below {w w' : World} (h : Below w.heap.size w w') (r : Option Nat) : w.grownBy w' r := ⟨h.os, h.tape, h.output, h.size, fun k hk _ => h.block k hk⟩
theorem strCells_eq (s : ByteArray) : Lib.strCells s = Lib.byteCells s.data.toList := rfl
/-- Bytes one behind the other. -/
theorem cat_str (a b : List UInt8) : (⟨a.toArray⟩ : ByteArray) ++ (⟨b.toArray⟩ : ByteArray) = ⟨(a ++ b).toArray⟩ := by
  apply ByteArray.ext
  simp
theorem refBool_any (v : Bool) (w : World) :
    Calls Tryz.prog 104 #[.bool v] w fun e w' => e = .returned (.string ⟨#[if v then 1 else 0]⟩) ∧ w = w' := by
  cases v
  · go_enter Tryz.func104, Tryz.ntmps104
    go_wp2
    go_ret
    exact ⟨rfl, rfl⟩
  · go_enter Tryz.func104, Tryz.ntmps104
    go_wp2
    go_ret
    exact ⟨rfl, rfl⟩
theorem own_below {w w1 : World} {B : Nat} {e : TypeId} {z : Nat} {v : Value} {n : Nat} {xs : List Value} (h : w.ownsRow B e z v n xs) (hb : Below w.heap.size w w1) : w1.ownsRow B e z v n xs :=
  h.kept (grownBy_of_below hb none) (by cases v.ownBlock <;> simp)
set_option maxHeartbeats 1000000 in
set_option maxRecDepth 100000 in
theorem refVar_any (x : Nat) (hx : x < 18446744073709551616) (w : World) :
    Calls Tryz.prog 139 #[.int .u64 x] w fun e w' => e = .returned (.string ⟨(Lib.uvarint x).toArray⟩) ∧ Below w.heap.size w w' := by
  obtain ⟨i0, hi, hz0, hz1, hz2⟩ := info_parts infoByte
  have hlen := Lib.uvarint_length64 hx
  go_enter Tryz.func139, Tryz.ntmps139
  go_wp2
  go_loopw [0, 3] (fun vx vb wr => ∃ (y : Nat) (pre : List UInt8), vx = .int .u64 y ∧ y ≤ x ∧ Lib.uvarint x = pre ++ Lib.uvarint y ∧ wr.ownsRow w.heap.size 5 1 vb pre.length (Lib.byteCells pre) ∧ Below w.heap.size w wr)
    (fun vx _ _ => (intOf vx).toNat)
  case atStart => exact ⟨x, [], rfl, Nat.le_refl _, rfl, by simpa [Lib.byteCells] using World.ownsRow_nil w _ _ _, Below.refl _ _⟩
  case round =>
    obtain ⟨y, pre, rfl, hy, hsplit, hown1, hnx⟩ := hrel
    have hpl : pre.length + (Lib.uvarint y).length ≤ 10 := by
      have h2 := congrArg List.length hsplit
      rw [List.length_append] at h2
      omega
    have hyp := Lib.uvarint_pos y
    have HSP := Lib.hid hsplit
    clear hsplit
    by_cases h128 : 128 ≤ y
    · have hm : IntKind.u8.wrap ((y : Int) % 128) = (y : Int) % 128 := by rw [IntKind.wrap_u8']; omega
      go_wp2_with (at_builtin; refine wpList_append_own _ rfl _ _ 125 rfl w.heap.size 5 i0 (.int .u8 0) 1 1 Tryz.underlying125 hi hz0 hz1 hz2 rfl (by decide) _ _ _ rfl (hown1.alloc _) ⟨wr.heap.size, 0, none⟩ 1 1 [Value.int .u8 ((y : Int) % 128 + 128)] rfl rfl ?c1 ?c2 ?c3 ?c4 ?c5 ?_)
      case c1 =>
        intro j u hj
        match j, hj with
        | 0, hj => simp at hj; subst hj; simp [Addr.add]
      case c2 => intro u hu; simp at hu; subst hu; rfl
      case c3 => unfold maxLen; omega
      case c4 => omega
      case c5 => have := hnx.size; simp; omega
      intro v' w1 hown' hgrow _
      have hnx1 : Below w.heap.size w w1 := (hnx.alloc (by have := hnx.size; omega) _).grown hgrow (by have := hnx.size; simp; omega) (fun k hk => (hown1.lt k hk).1)
      go_wp2
      go_roundw
      case rel =>
        refine ⟨y / 128, pre ++ [(y % 128 + 128).toUInt8], by go_num, by omega, by rw [HSP.out, Lib.uvarint_big h128]; simp, ?_, hnx1⟩
        have ec : ((y % 128 + 128 : Nat) : Int) = (y : Int) % 128 + 128 := by omega
        rw [Lib.byteCells_snoc pre (by omega), List.length_append, List.length_singleton, ec]
        exact hown'
      case measure => simp [intOf]; omega
    · have hsm : Lib.uvarint y = [y.toUInt8] := Lib.uvarint_small (by omega)
      have HSM := Lib.hid hsm
      clear hsm
      go_wp2_with (at_builtin; refine wpList_append_own _ rfl _ _ 125 rfl w.heap.size 5 i0 (.int .u8 0) 1 1 Tryz.underlying125 hi hz0 hz1 hz2 rfl (by decide) _ _ _ rfl (hown1.alloc _) ⟨wr.heap.size, 0, none⟩ 1 1 [Value.int .u8 (y : Int)] rfl rfl ?c1 ?c2 ?c3 ?c4 ?c5 ?_)
      case c1 =>
        intro j u hj
        match j, hj with
        | 0, hj => simp at hj; subst hj; simp [Addr.add]
      case c2 => intro u hu; simp at hu; subst hu; rfl
      case c3 => unfold maxLen; omega
      case c4 => omega
      case c5 => have := hnx.size; simp; omega
      intro v' w1 hown' hgrow _
      have hnx1 : Below w.heap.size w w1 := (hnx.alloc (by have := hnx.size; omega) _).grown hgrow (by have := hnx.size; simp; omega) (fun k hk => (hown1.lt k hk).1)
      have hown2 : w1.ownsRow w.heap.size 5 1 v' (pre.length + 1) (Lib.byteCells (Lib.uvarint x)) := by
        rw [HSP.out, HSM.out, Lib.byteCells_snoc pre (by omega)]
        exact hown'
      have hcv := conv_own hown2 (by rw [HSP.out, HSM.out]; simp)
      clear hown' hown2 hgrow
      go_wp2
      go_ret
      exact ⟨rfl, hnx1⟩
set_option maxHeartbeats 1000000 in
theorem refText_any (s : ByteArray) (w : World) (hs : s.size ≤ 1000000) :
    Calls Tryz.prog 105 #[.string s] w fun e w' => e = .returned (.string ⟨(Lib.uvarint s.size ++ s.data.toList).toArray⟩) ∧ Below w.heap.size w w' := by
  have HU := Lib.hid (show s.size < 18446744073709551616 by omega)
  have hl := Lib.uvarint_length64 (x := s.size) (by omega)
  go_enter Tryz.func105, Tryz.ntmps105
  go_wp2_with (go_at_call 139; refine (refVar_any s.size HU.out _).mono ?_; rintro e w1 ⟨rfl, hb1⟩)
  go_ret
  refine ⟨?_, hb1⟩
  rw [← cat_str, show (⟨s.data.toList.toArray⟩ : ByteArray) = s by apply ByteArray.ext; simp]
  rfl
set_option maxHeartbeats 1000000 in
set_option maxRecDepth 100000 in
theorem refVars_any (b off cap : Nat) (zs : List Nat) (w : World) (hr : ∀ z ∈ zs, z < 18446744073709551616) (hlim : zs.length ≤ 1000000)
    (hc : ∀ i (h : i < zs.length), w.cell? ⟨b, off + i, none⟩ = some (.int .u64 (zs[i] : Int))) (hb : b < w.heap.size) :
    Calls Tryz.prog 103 #[.slice (some ⟨b, off, none⟩) zs.length cap] w fun e w' => e = .returned (.string ⟨(vars zs).toArray⟩) ∧ Below w.heap.size w w' := by
  obtain ⟨i0, hi, hz0, hz1, hz2⟩ := info_parts infoByte
  go_enter Tryz.func103, Tryz.ntmps103
  go_wp2
  go_loopw [3, 4] (fun vb i wr => ∃ k : Nat, k ≤ zs.length ∧ i = .int .i64 k ∧ wr.ownsRow w.heap.size 5 1 vb (vars (zs.take k)).length (Lib.byteCells (vars (zs.take k))) ∧ Below w.heap.size w wr)
    (fun _ i _ => zs.length - (intOf i).toNat)
  case atStart => exact ⟨0, Nat.zero_le _, rfl, by simpa [vars, Lib.byteCells] using World.ownsRow_nil w _ _ _, Below.refl _ _⟩
  case round =>
    obtain ⟨k, hk, rfl, hown, hnx⟩ := hrel
    by_cases hlt : k < zs.length
    · have hcx : wr.cell? ⟨b, off + k, none⟩ = some (.int .u64 (zs[k] : Int)) := (hnx.cell (by exact hb)).trans (hc k hlt)
      have hl1 := vars_length (zs.take k) (fun z hz => hr z (List.mem_of_mem_take hz))
      have hl2 : (zs.take k).length ≤ k := List.length_take_le _ _
      have hz := hr zs[k] (List.getElem_mem hlt)
      have hu := Lib.uvarint_length64 hz
      have HT := Lib.hid (take_snoc_nat zs k hlt)
      have HZ := Lib.hid hz
      have hsz : (⟨(Lib.uvarint zs[k]).toArray⟩ : ByteArray).size ≤ 10 := by show (Lib.uvarint zs[k]).toArray.size ≤ 10; simpa using hu
      clear hz
      go_wp2_with fail
      refine (refVar_any zs[k] HZ.out _).mono ?_
      rintro e w1 ⟨rfl, hb1⟩
      have hown1 := own_below hown hb1
      have hnx1 := hnx.trans (hb1.mono hnx.size)
      go_wp2_with (at_builtin; refine Lib.wpList_append_own_string _ rfl _ _ 125 9 rfl w.heap.size 5 i0 Tryz.underlying125 Tryz.underlying9 hi hz0 hz1 hz2 _ _ _ rfl hown1 _ rfl ?c1 ?c2 ?c3 ?_)
      case c1 => unfold maxLen; omega
      case c2 => omega
      case c3 => exact hnx1.size
      intro v' w2 hown2 hgrow2 _
      have hnx2 : Below w.heap.size w w2 := hnx1.grown hgrow2 hnx1.size (fun j hj => (hown1.lt j hj).1)
      clear hown hown1 hgrow2
      go_wp2
      go_roundw
      case rel =>
        refine ⟨k + 1, by omega, by go_num, ?_, hnx2⟩
        rw [HT.out, vars_snoc, List.length_append, Lib.byteCells_append]
        have e1 : (⟨(Lib.uvarint zs[k]).toArray⟩ : ByteArray).size = (Lib.uvarint zs[k]).length := by show (Lib.uvarint zs[k]).toArray.size = _; simp
        have e2 : Lib.strCells (⟨(Lib.uvarint zs[k]).toArray⟩ : ByteArray) = Lib.byteCells (Lib.uvarint zs[k]) := by rw [strCells_eq]
        rw [← e1, ← e2]
        exact hown2
      case measure => simp [intOf]; omega
    · have hke : k = zs.length := by omega
      have hcv := conv_own hown rfl
      go_wp2
      go_ret
      refine ⟨?_, hnx⟩
      subst hke
      simp
end Go.Proofs.YthaalhigmihijabGreat

namespace Go.Proofs.YthaalhigmihijabGreat
open Go.RowKit

set_option maxHeartbeats 2000000 in
set_option maxRecDepth 100000 in
theorem sameW_any (a b : Option Addr) (c1 c2 : Nat) (ws : List Wr) (w : World) (h1 : WrsAt w.heap.size w a ws.length ws) (h2 : WrsAt w.heap.size w b ws.length ws) (hl : ws.length ≤ 1000) :
    Calls Tryz.prog 37 #[.slice a ws.length c1, .slice b ws.length c2] w fun e w' => e = .returned (.bool true) ∧ ∃ m, w' = w.drewN m := by
  have H1 := Lib.hid h1
  have H2 := Lib.hid h2
  clear h1 h2
  go_enter Tryz.func37, Tryz.ntmps37
  go_wp2
  go_loopw [5] (fun iv wr => ∃ k m : Nat, iv = .int .i64 (k : Int) ∧ k ≤ ws.length ∧ wr = w.drewN m) (fun iv _ => ws.length - (intOf iv).toNat)
  case atStart => exact ⟨0, 0, rfl, Nat.zero_le _, rfl⟩
  case round =>
    obtain ⟨k, m, rfl, hk, rfl⟩ := hrel
    by_cases hlk : k < ws.length
    · obtain ⟨⟨K, X, D⟩, hx⟩ : ∃ x, ws[k] = x := ⟨_, rfl⟩
      obtain ⟨b1, o1, rfl, p0, p1, p2⟩ : ∃ b off, a = some ⟨b, off, none⟩ ∧ (w.drewN m).cell? ⟨b, off + k * 3, none⟩ = some (.string K) ∧ (w.drewN m).cell? ⟨b, off + k * 3 + 1, none⟩ = some (.string X) ∧ (w.drewN m).cell? ⟨b, off + k * 3 + 2, none⟩ = some (.bool D) := by
        rcases H1.out.2 with h0 | ⟨b, off, e, h1, h2⟩
        · omega
        · have h3 := h2 k hlk
          rw [hx] at h3
          exact ⟨b, off, e, h3 0 _ rfl, h3 1 _ rfl, h3 2 _ rfl⟩
      obtain ⟨b2, o2, rfl, r0, r1, r2⟩ : ∃ b' off, b = some ⟨b', off, none⟩ ∧ (w.drewN m).cell? ⟨b', off + k * 3, none⟩ = some (.string K) ∧ (w.drewN m).cell? ⟨b', off + k * 3 + 1, none⟩ = some (.string X) ∧ (w.drewN m).cell? ⟨b', off + k * 3 + 2, none⟩ = some (.bool D) := by
        rcases H2.out.2 with h0 | ⟨b, off, e, h1, h2⟩
        · omega
        · have h3 := h2 k hlk
          rw [hx] at h3
          exact ⟨b, off, e, h3 0 _ rfl, h3 1 _ rfl, h3 2 _ rfl⟩
      have hkl : (k : Int) < (ws.length : Int) := by omega
      obtain ⟨W, hW⟩ : ∃ W, w.drewN m = W := ⟨_, rfl⟩
      rw [hW] at p0 p1 p2 r0 r1 r2 ⊢
      have HW := Lib.hid hW
      clear hW hx
      go_wp2
      go_quiet (fail)
      go_wp2
      go_roundw
      case rel => exact ⟨k + 1, _, by go_num, by omega, by rw [← HW.out]; exact (World.drewN_drewN _ _ _)⟩
      case measure => simp [intOf]; omega
    · obtain rfl : k = ws.length := by omega
      go_wp2
      go_ret
      exact ⟨rfl, _, rfl⟩
end Go.Proofs.YthaalhigmihijabGreat

namespace Go.Proofs.YthaalhigmihijabGreat
open Go.RowKit

theorem infoW8 : (Tryz.prog.info? 82).map (fun i => (i.zero, i.size, i.bytes)) = some (some (.agg #[.string ⟨#[]⟩, .string ⟨#[]⟩, .bool false]), 3, 40) := by kernel_rfl
def cellsW (ws : List Wr) : List Value := ws.flatMap Wr.cells
theorem cellsW_length : ∀ l : List Wr, (cellsW l).length = l.length * 3
  | [] => rfl
  | x :: l => by
    have := cellsW_length l
    simp only [cellsW, List.flatMap_cons, List.length_append, List.length_cons] at *
    rw [this]
    simp only [Wr.cells, List.length_cons, List.length_nil]
    omega
theorem cellsW_get : ∀ (l : List Wr) (i : Nat) (h : i < l.length) (j : Nat) (u : Value), l[i].cells[j]? = some u → (cellsW l)[i * 3 + j]? = some u
  | [], _, h, _, _, _ => by cases h
  | x :: l, i, h, j, u, hu => by
    have hc : cellsW (x :: l) = x.cells ++ cellsW l := by simp [cellsW]
    have hl : x.cells.length = 3 := rfl
    rw [hc]
    match i, h, hu with
    | 0, _, hu =>
      have hu' : x.cells[j]? = some u := hu
      have hj := (List.getElem?_eq_some_iff.1 hu').1
      rw [Nat.zero_mul, Nat.zero_add, List.getElem?_append_left hj]
      exact hu'
    | i + 1, h, hu =>
      have ih := cellsW_get l i (by simpa using h) j u hu
      rw [List.getElem?_append_right (by rw [hl, Nat.add_mul]; omega), hl, show (i + 1) * 3 + j - 3 = i * 3 + j by rw [Nat.add_mul]; omega]
      exact ih
theorem cellsW_one (l : List Wr) : ∀ u ∈ cellsW l, u.oneCell' = true := by
  intro u hu
  obtain ⟨x, -, hx⟩ := List.mem_flatMap.1 hu
  simp only [Wr.cells, List.mem_cons, List.not_mem_nil, or_false] at hx
  rcases hx with rfl | rfl | rfl <;> rfl
def markW : List Value := [.string ⟨#[109, 97, 114, 107]⟩, .string ⟨#[]⟩, .bool false]
theorem row_new {w : World} {e : TypeId} {size : Nat} {v : Value} {n : Nat} {xs : List Value} (h : Row w e size v n xs) (o : Obj) : Row (w.alloc o) e size v n xs :=
  h.kept fun k hk => Below.heap_alloc w o k (h.lt k hk)
/-- Where a row made by append out of nothing lies. -/
theorem ob_newM {w w1 : World} {v1 : Value} (h : ob v1 = ob (.slice none 0 0) ∨ (ob v1 = some w.heap.size ∧ w.grownBy w1 none)) : ∀ k, ob v1 = some k → w.heap.size ≤ k := by
  intro k hk
  rcases h with e | ⟨e, -⟩
  · rw [e] at hk
    simp [ob] at hk
  · rw [e] at hk
    cases hk
    exact Nat.le_refl _
theorem lent_form {w w1 w2 : World} {e : TypeId} {size n : Nat} {v1 v2 : Value} {xs : List Value} {o : Obj} (h : Row w2 e size v2 (n + 1) xs) (hob : ob v2 = ob v1 ∨ (ob v2 = some (w1.heap.size + 1) ∧ (w1.alloc o).grownBy w2 none)) (h1 : ∀ k, ob v1 = some k → w.heap.size ≤ k) (hs : w.heap.size ≤ w1.heap.size) : ∃ g c, v2 = .slice (some ⟨g, 0, none⟩) (n + 1) (c + 1) ∧ w.heap.size ≤ g := by
  rcases h.2 with ⟨h0, -⟩ | ⟨g, cap, cur, rfl, -⟩
  · cases h0
  · refine ⟨g, cap, rfl, ?_⟩
    rcases hob with e | ⟨e, -⟩
    · exact h1 g (by rw [← e]; rfl)
    · have : g = w1.heap.size + 1 := Option.some.inj e
      omega
theorem lent_below {w w1 w2 : World} {v1 : Value} {o : Obj} (hb : Below w.heap.size w w1) (hg : (w1.alloc o).grownBy w2 (ob v1)) (h1 : ∀ k, ob v1 = some k → w.heap.size ≤ k) : Below w.heap.size w w2 :=
  (hb.alloc hb.size o).trans ((turn_of_grown (F := (ob v1).toList) hg (fun k hk => .inl (by simp [hk]))).below (by have := hb.size; simp; omega) (fun k hk => h1 k (by simpa using hk)))
theorem lent_cap {w : World} {e : TypeId} {size n g c : Nat} {xs : List Value} (h : Row w e size (.slice (some ⟨g, 0, none⟩) n c) n xs) : n ≤ c := by
  obtain ⟨a, cap, e, h1, -⟩ := h.le
  cases e
  exact h1
set_option maxHeartbeats 2000000 in
set_option maxRecDepth 100000 in
/-- What LentWrites tells: its own row, and behind it a mark. -/
theorem lentW_any (a : Option Addr) (cap : Nat) (ws : List Wr) (w : World) (hs : Src Tryz.prog 3 61 (.slice a ws.length cap) ws.length (cellsW ws) w) (hl : ws.length ≤ 1000000) :
    Calls Tryz.prog 9 #[.slice a ws.length cap] w fun e w' => ∃ g c, e = .returned (.slice (some ⟨g, 0, none⟩) ws.length (c + 1)) ∧ Row w' 82 3 (.slice (some ⟨g, 0, none⟩) (ws.length + 1) (c + 1)) (ws.length + 1) (cellsW ws ++ markW) ∧ w.heap.size ≤ g ∧ Below w.heap.size w w' := by
  obtain ⟨i0, hi, hz0, hzs, hzb⟩ := info_parts infoW8
  have HS := Lib.hid hs
  have HB1 := Lib.hid (show 0 + ws.length ≤ maxLen by unfold maxLen; omega)
  have HB2 := Lib.hid (show (0 + ws.length) * 40 ≤ 140737488355328 by omega)
  have HB3 := Lib.hid (show ws.length + 1 ≤ maxLen by unfold maxLen; omega)
  have HB4 := Lib.hid (show (ws.length + 1) * 40 ≤ 140737488355328 by omega)
  clear hs
  go_enter Tryz.func9, Tryz.ntmps9
  have HM := Lib.hid (show ∀ w1 : World, Src Tryz.prog 3 61 (.slice (some ⟨w1.heap.size, 0, none⟩) 1 1) 1 markW (w1.alloc (.cells #[.string ⟨#[109, 97, 114, 107]⟩, .string ⟨#[]⟩, .bool false] 82)) from fun w1 => Src.ofSlice (P := Tryz.prog) _ (size := 3) Tryz.underlying61 ⟨w1.heap.size, 0, none⟩ 1 1 _ rfl (fun j u hu => by
    match j, hu with
    | 0, hu => simpa [Addr.add, markW] using hu
    | 1, hu => simpa [Addr.add, markW] using hu
    | 2, hu => simpa [Addr.add, markW] using hu) (by simp [markW, Value.oneCell']))
  go_wp2_with (at_builtin; refine wpList_append_row _ rfl _ _ 61 61 rfl 82 i0 _ 3 40 Tryz.underlying61 hi hz0 hzs hzb rfl (.slice none 0 0) 0 [] rfl (row_nil _ _ _) _ rfl ws.length _ HS.out HB1.out HB2.out ?_)
  intro v1 w1 hrow1 hgrow1 hob1
  have hb1 : Below w.heap.size w w1 := (turn_of_grown (F := []) hgrow1 (fun k hk => by simp [ob] at hk)).below (Nat.le_refl _) (by simp)
  try simp only [Nat.zero_add, List.nil_append] at hrow1
  have HR1 := Lib.hid hrow1
  have HO1 := Lib.hid hob1
  have HBW := Lib.hid hb1
  clear hrow1 hgrow1 hob1 hb1
  go_wp2_with (at_builtin; refine wpList_append_row _ rfl _ _ 61 61 rfl 82 i0 _ 3 40 Tryz.underlying61 hi hz0 hzs hzb rfl v1 _ _ rfl (row_new HR1.out _) _ rfl 1 _ (HM.out _) HB3.out HB4.out ?_)
  intro v2 w2 hrow2 hgrow2 hob2
  obtain ⟨g, c, rfl, hgb⟩ := lent_form (w := w) hrow2 hob2 (ob_newM HO1.out) HBW.out.size
  have hb2 := lent_below HBW.out hgrow2 (ob_newM HO1.out)
  have HR2 := Lib.hid hrow2
  have hcap : ws.length + 1 ≤ c + 1 := lent_cap hrow2
  have HB := Lib.hid hb2
  clear hrow2 hgrow2 hob2 hb2
  go_wp2
  go_ret
  exact ⟨g, c, rfl, HR2.out, hgb, HB.out⟩
theorem src_wrs {n₀ : Nat} {w : World} {a : Option Addr} {cap : Nat} {ws : List Wr} (h : WrsAt n₀ w a ws.length ws) (hn : a = none → ws = [] ∧ cap = 0) : Src Tryz.prog 3 61 (.slice a ws.length cap) ws.length (cellsW ws) w := by
  cases a with
  | none =>
    obtain ⟨h1, h2⟩ := hn rfl
    subst h1 h2
    exact Src.ofNil (P := Tryz.prog) (w := w) Tryz.underlying61 0
  | some y =>
    refine Src.ofSlice (P := Tryz.prog) _ (size := 3) Tryz.underlying61 y ws.length cap (cellsW ws) (cellsW_length ws) (fun j u hu => ?_) (cellsW_one ws)
    rcases h.2 with h0 | ⟨b, off, e, -, hc⟩
    · have := (List.getElem?_eq_some_iff.1 hu).1
      rw [cellsW_length] at this
      omega
    · cases e
      have hj := (List.getElem?_eq_some_iff.1 hu).1
      rw [cellsW_length] at hj
      have hadd : (⟨b, off, none⟩ : Addr).add j = ⟨b, off + j, none⟩ := by unfold Addr.add; split <;> simp_all
      rw [hadd]
      have hi : j / 3 < ws.length := by omega
      have h3 : j % 3 < (ws[j / 3]).cells.length := by
        show j % 3 < 3
        omega
      have h4 := cellsW_get ws (j / 3) hi (j % 3) _ (List.getElem?_eq_getElem h3)
      rw [show j / 3 * 3 + j % 3 = j by omega, hu] at h4
      have h5 := hc (j / 3) hi (j % 3) _ (List.getElem?_eq_getElem h3)
      rw [show off + j / 3 * 3 + j % 3 = off + j by omega] at h5
      rw [h5, ← h4]
/-- A list that was lent, and its mark. -/
structure LentWs (w : World) (g c : Nat) (ws : List Wr) : Prop where
  row : Row w 82 3 (.slice (some ⟨g, 0, none⟩) (ws.length + 1) (c + 1)) (ws.length + 1) (cellsW ws ++ markW)
theorem LentWs.wrs {w : World} {g c : Nat} {ws : List Wr} (h : LentWs w g c ws) : WrsAt w.heap.size w (some ⟨g, 0, none⟩) ws.length ws := by
  refine ⟨rfl, .inr ⟨g, 0, rfl, h.row.lt g rfl, fun i hi j u hu => ?_⟩⟩
  have h1 := cellsW_get ws i hi j u hu
  have h2 := h.row.cell g 0 (c + 1) rfl (i * 3 + j) u (by rw [List.getElem?_append_left (List.getElem?_eq_some_iff.1 h1).1]; exact h1)
  rw [← Nat.add_assoc] at h2
  exact h2
theorem LentWs.mark {w : World} {g c : Nat} {ws : List Wr} (h : LentWs w g c ws) : w.cell? ⟨g, ws.length * 3, none⟩ = some (.string ⟨#[109, 97, 114, 107]⟩) := by
  have h2 := h.row.cell g 0 (c + 1) rfl (ws.length * 3) (.string ⟨#[109, 97, 114, 107]⟩) (by rw [List.getElem?_append_right (by rw [cellsW_length]; exact Nat.le_refl _), cellsW_length, Nat.sub_self]; rfl)
  rw [Nat.zero_add] at h2
  exact h2
theorem LentWs.cap {w : World} {g c : Nat} {ws : List Wr} (h : LentWs w g c ws) : ws.length + 1 ≤ c + 1 := lent_cap h.row
theorem LentWs.keep {w w' : World} {g c : Nat} {ws : List Wr} (h : LentWs w g c ws) (hk : w'.heap[g]? = w.heap[g]?) : LentWs w' g c ws := ⟨h.row.kept fun k hk' => by cases hk'; exact hk⟩
set_option maxHeartbeats 1000000 in
theorem staysW_any (g c : Nat) (a : Option Addr) (cap : Nat) (ws : List Wr) (w : World) (h : LentWs w g c ws) (hw : WrsAt w.heap.size w a ws.length ws) (hl : ws.length ≤ 1000) :
    Calls Tryz.prog 22 #[.slice (some ⟨g, 0, none⟩) ws.length (c + 1), .slice a ws.length cap] w fun e w' => e = .returned (.bool true) ∧ Below w.heap.size w w' := by
  have HC := Lib.hid (sameW_any (some ⟨g, 0, none⟩) a (c + 1) cap ws w h.wrs hw hl)
  have hm := h.mark
  have hcap := h.cap
  clear h hw
  go_enter Tryz.func22, Tryz.ntmps22
  go_wp2_with (go_at_call 37; refine HC.out.mono ?_; rintro e w' ⟨rfl, n, rfl⟩)
  go_ret
  exact ⟨rfl, ⟨rfl, rfl, rfl, Nat.le_refl _, fun _ _ => rfl⟩⟩
end Go.Proofs.YthaalhigmihijabGreat

namespace Go.Proofs.YthaalhigmihijabGreat
open Go.RowKit

set_option maxHeartbeats 2000000 in
set_option maxRecDepth 100000 in
theorem lentI8_src (a : Option Addr) (cap : Nat) (ks : List Int) (w : World) (hs : Src Tryz.prog 1 22 (.slice a ks.length cap) ks.length (cellsI ks) w) (hl : ks.length ≤ 1000000) :
    Calls Tryz.prog 5 #[.slice a ks.length cap] w fun e w' => ∃ g c, e = .returned (.slice (some ⟨g, 0, none⟩) ks.length (c + 1)) ∧ Row w' 3 1 (.slice (some ⟨g, 0, none⟩) (ks.length + 1) (c + 1)) (ks.length + 1) (cellsI ks ++ [.int .i64 (-77)]) ∧ w.heap.size ≤ g ∧ Below w.heap.size w w' := by
  obtain ⟨i0, hi, hz0, hzs, hzb⟩ := info_parts infoI8
  have HS := Lib.hid hs
  have HB1 := Lib.hid (show 0 + ks.length ≤ maxLen by unfold maxLen; omega)
  have HB2 := Lib.hid (show (0 + ks.length) * 8 ≤ 140737488355328 by omega)
  have HB3 := Lib.hid (show ks.length + 1 ≤ maxLen by unfold maxLen; omega)
  have HB4 := Lib.hid (show (ks.length + 1) * 8 ≤ 140737488355328 by omega)
  clear hs
  go_enter Tryz.func5, Tryz.ntmps5
  have HM := Lib.hid (show ∀ w1 : World, Src Tryz.prog 1 22 (.slice (some ⟨w1.heap.size, 0, none⟩) 1 1) 1 [.int .i64 (-77)] (w1.alloc (.cells #[.int .i64 (-77)] 3)) from fun w1 => Src.ofSlice (P := Tryz.prog) _ (size := 1) Tryz.underlying22 ⟨w1.heap.size, 0, none⟩ 1 1 _ rfl (fun j u hu => by
    match j, hu with
    | 0, hu => simpa [Addr.add] using hu) (by simp [Value.oneCell']))
  go_wp2_with (at_builtin; refine wpList_append_row _ rfl _ _ 22 22 rfl 3 i0 _ 1 8 Tryz.underlying22 hi hz0 hzs hzb rfl (.slice none 0 0) 0 [] rfl (row_nil _ _ _) _ rfl ks.length _ HS.out HB1.out HB2.out ?_)
  intro v1 w1 hrow1 hgrow1 hob1
  have hb1 : Below w.heap.size w w1 := (turn_of_grown (F := []) hgrow1 (fun k hk => by simp [ob] at hk)).below (Nat.le_refl _) (by simp)
  try simp only [Nat.zero_add, List.nil_append] at hrow1
  have HR1 := Lib.hid hrow1
  have HO1 := Lib.hid hob1
  have HBW := Lib.hid hb1
  clear hrow1 hgrow1 hob1 hb1
  go_wp2_with (at_builtin; refine wpList_append_row _ rfl _ _ 22 22 rfl 3 i0 _ 1 8 Tryz.underlying22 hi hz0 hzs hzb rfl v1 _ _ rfl (row_new HR1.out _) _ rfl 1 _ (HM.out _) HB3.out HB4.out ?_)
  intro v2 w2 hrow2 hgrow2 hob2
  obtain ⟨g, c, rfl, hgb⟩ := lent_form (w := w) hrow2 hob2 (ob_newM HO1.out) HBW.out.size
  have hb2 := lent_below HBW.out hgrow2 (ob_newM HO1.out)
  have HR2 := Lib.hid hrow2
  have hcap : ks.length + 1 ≤ c + 1 := lent_cap hrow2
  have HB := Lib.hid hb2
  clear hrow2 hgrow2 hob2 hb2
  go_wp2
  go_ret
  exact ⟨g, c, rfl, HR2.out, hgb, HB.out⟩
theorem lentI8_any (a : Option Addr) (len cap : Nat) (ks : List Int) (w : World) (h : IntsV w (.slice a len cap) ks) (hl : ks.length ≤ 1000000) :
    Calls Tryz.prog 5 #[.slice a len cap] w fun e w' => ∃ g c, e = .returned (.slice (some ⟨g, 0, none⟩) ks.length (c + 1)) ∧ Row w' 3 1 (.slice (some ⟨g, 0, none⟩) (ks.length + 1) (c + 1)) (ks.length + 1) (cellsI ks ++ [.int .i64 (-77)]) ∧ w.heap.size ≤ g ∧ Below w.heap.size w w' := by
  rcases h with ⟨e, rfl⟩ | ⟨y, cap', e, hc⟩
  · cases e
    exact lentI8_src none 0 [] w (Src.ofNil (P := Tryz.prog) (w := w) Tryz.underlying22 0) (by simp)
  · cases e
    exact lentI8_src (some y) cap ks w (Src.ofSlice (P := Tryz.prog) _ (size := 1) Tryz.underlying22 y ks.length cap (cellsI ks) (by rw [cellsI_length, Nat.mul_one]) hc (cellsI_one ks)) hl
set_option maxHeartbeats 1000000 in
theorem staysI8_any (g c : Nat) (a : Option Addr) (len cap : Nat) (ks : List Int) (w : World) (h : Row w 3 1 (.slice (some ⟨g, 0, none⟩) (ks.length + 1) (c + 1)) (ks.length + 1) (cellsI ks ++ [.int .i64 (-77)])) (hv : IntsV w (.slice a len cap) ks) (hl : ks.length ≤ 1000000) :
    Calls Tryz.prog 7 #[.slice (some ⟨g, 0, none⟩) ks.length (c + 1), .slice a len cap] w fun e w' => e = .returned (.bool true) ∧ Below w.heap.size w w' := by
  have hcell : ∀ i (hi : i < ks.length), w.cell? ⟨g, i, none⟩ = some (.int .i64 ks[i]) := fun i hi => by
    have := h.cell g 0 (c + 1) rfl i (.int .i64 ks[i]) (by rw [List.getElem?_append_left (by rw [cellsI_length]; exact hi)]; simp [cellsI, hi])
    rw [Nat.zero_add] at this
    exact this
  have hmark : w.cell? ⟨g, ks.length, none⟩ = some (.int .i64 (-77)) := by
    have := h.cell g 0 (c + 1) rfl ks.length (.int .i64 (-77)) (by rw [List.getElem?_append_right (by rw [cellsI_length]; exact Nat.le_refl _), cellsI_length, Nat.sub_self]; rfl)
    rw [Nat.zero_add] at this
    exact this
  have hcap := lent_cap h
  have HC : Hid (Calls Tryz.prog 25 #[.slice (some ⟨g, 0, none⟩) ks.length (c + 1), .slice a len cap] w fun e w' => e = .returned (.bool true) ∧ ∃ n, w' = w.drewN n) := by
    rcases hv with ⟨e, rfl⟩ | ⟨y, cap', e, hc⟩
    · cases e
      exact Lib.hid (sameInts_none _ _ _ _ _)
    · cases e
      by_cases h0 : ks = []
      · subst h0
        exact Lib.hid (sameInts_none _ _ _ _ _)
      · have hpos : 0 < ks.length := List.length_pos_iff.2 h0
        have hc0 := hc 0 _ (show (cellsI ks)[0]? = some (.int .i64 ks[0]) by simp [cellsI, hpos])
        obtain ⟨b, off, spot⟩ := y
        have hs : spot = none := by simpa [Addr.add] using World.cell?_spot hc0
        subst hs
        refine Lib.hid (sameInts_some g 0 (c + 1) b off cap ks w hl (fun i hi => by rw [Nat.zero_add]; exact hcell i hi) (fun i hi => ?_))
        have := hc i (.int .i64 ks[i]) (by simp [cellsI, hi])
        rw [addr_at] at this
        exact this
  clear h hv hcell
  go_enter Tryz.func7, Tryz.ntmps7
  go_wp2_with (go_at_call 25; refine HC.out.mono ?_; rintro e w' ⟨rfl, n, rfl⟩)
  go_ret
  exact ⟨rfl, ⟨rfl, rfl, rfl, Nat.le_refl _, fun _ _ => rfl⟩⟩
end Go.Proofs.YthaalhigmihijabGreat

namespace Go.Proofs.YthaalhigmihijabGreat
open Go.RowKit

/-- Its answer: some bytes, or an error. -/
def refV (ws : List Wr) (bs : ByteArray) : Value := if wrsOk ws then .tuple #[.string bs, .int .i64 0] else .tuple #[.string ⟨#[]⟩, .int .i64 1]
theorem refV_yes {ws : List Wr} (h : wrsOk ws = true) (bs : ByteArray) : refV ws bs = .tuple #[.string bs, .int .i64 0] := by unfold refV; rw [h]; rfl
theorem refV_no {ws : List Wr} (h : wrsOk ws = false) (bs : ByteArray) : refV ws bs = .tuple #[.string ⟨#[]⟩, .int .i64 1] := by unfold refV; rw [h]; rfl
theorem src_str (s : ByteArray) (w : World) : Src Tryz.prog 1 9 (.string s) s.size (Lib.byteCells s.data.toList) w := Src.ofString (P := Tryz.prog) (w := w) Tryz.underlying9 s
theorem infoByte8 : (Tryz.prog.info? 5).map (fun i => (i.zero, i.size, i.bytes)) = some (some (.int .u8 0), 1, 1) := by kernel_rfl
theorem row_belM {w w' : World} {e : TypeId} {size : Nat} {v : Value} {n : Nat} {xs : List Value} (h : Row w e size v n xs) (hb : Below w.heap.size w w') : Row w' e size v n xs := h.kept fun k hk => hb.block k (h.lt k hk)
theorem conv_row {w : World} {v : Value} {l : List UInt8} (h : Row w 5 1 v l.length (Lib.byteCells l)) (hn : 1 ≤ l.length) : (convert 125 9 v).run Tryz.prog w = .ok (.string ⟨l.toArray⟩) w := by
  refine conv_own (B := 0) ⟨h.1, ?_⟩ rfl
  rcases h.2 with ⟨h0, -⟩ | ⟨g, cap, cur, e, h1, h2, h3, h4, h5⟩
  · omega
  · exact .inr ⟨g, cap + 1, cur, e, Nat.zero_le _, h1, h2, h3, h4, h5⟩
theorem text_size (s : ByteArray) (h : s.size ≤ 60000) : (⟨(Lib.uvarint s.size ++ s.data.toList).toArray⟩ : ByteArray).size ≤ s.size + 10 := by
  have h1 := Lib.uvarint_length64 (x := s.size) (by omega)
  have h2 := len_data' s
  have h3 : (⟨(Lib.uvarint s.size ++ s.data.toList).toArray⟩ : ByteArray).size = (Lib.uvarint s.size ++ s.data.toList).length := List.size_toArray
  rw [h3, List.length_append]
  omega
set_option maxHeartbeats 8000000 in
set_option maxRecDepth 100000 in
theorem refPut_any (first : Nat) (a : Option Addr) (len cap : Nat) (ws : List Wr) (w : World) (hE : WrsAt w.heap.size w a len ws) (hl : len ≤ 60) (hok0 : ∀ x ∈ ws, x.Ok) (hf : first < 18446744073709551616) :
    Calls Tryz.prog 30 #[.agg #[.int .u64 (first : Int), .slice a len cap]] w fun e w' => (∃ bs, e = .returned (refV ws bs)) ∧ Below w.heap.size w w' := by
  have hel := hE.1
  obtain ⟨wB, hwB⟩ : ∃ wB, w.alloc (.cells #[.int .u64 (first : Int), .slice a len cap] 91) = wB := ⟨_, rfl⟩
  have bB : Below w.heap.size w wB := by rw [← hwB]; exact (Below.refl _ _).alloc (Nat.le_refl _) _
  have c0 : wB.cell? ⟨w.heap.size, 0, none⟩ = some (.int .u64 (first : Int)) := by rw [← hwB]; exact ncell rfl rfl
  have c1 : wB.cell? ⟨w.heap.size, 1, none⟩ = some (.slice a len cap) := by rw [← hwB]; exact ncell rfl rfl
  have hlt : w.heap.size < wB.heap.size := by rw [← hwB]; simp
  have HE := Lib.hid hE
  have HOK0 := Lib.hid hok0
  have HBB := Lib.hid bB
  have C0 := Lib.hid c0
  have C1 := Lib.hid c1
  clear hE hok0 bB
  by_cases h0 : len = 0
  · subst h0
    have HN := Lib.hid (show wrsOk ws = false by
      have : ws = [] := List.length_eq_zero_iff.1 hel
      rw [this]
      rfl)
    clear hel
    go_enter Tryz.func30, Tryz.ntmps30
    go_wp2
    refine bodyPost_ret (results_tmp2 rfl _ _ _) rfl ?_
    exact ⟨⟨⟨#[]⟩, by rw [refV_no HN.out]; rfl⟩, HBB.out⟩
  have d0 : ((len : Int) == 0) = false := by rw [beq_eq_false_iff_ne]; omega
  have d0' : (len == 0) = false := by rw [beq_eq_false_iff_ne]; omega
  have hw : IntKind.u64.wrap (len : Int) = (len : Int) := by rw [IntKind.wrap_u64]; omega
  obtain ⟨i0, hi, hz0, hzs, hzb⟩ := info_parts infoByte8
  have CV := Lib.hid (refVars_any wB.heap.size 0 2 [first, len] (wB.alloc (.cells #[.int .u64 (first : Int), .int .u64 (len : Int)] 30)) (fun z hz => by simp at hz; rcases hz with rfl | rfl <;> omega) (by simp) (fun i hi => by
    match i, hi with
    | 0, _ => exact ncell rfl rfl
    | 1, _ => exact ncell rfl rfl) (by simp))
  obtain ⟨VS, hVS⟩ : ∃ VS : ByteArray, (⟨(vars [first, len]).toArray⟩ : ByteArray) = VS := ⟨_, rfl⟩
  have hvl1 : 1 ≤ VS.size := by
    rw [← hVS]
    show 1 ≤ (vars [first, len]).toArray.size
    rw [List.size_toArray]
    have h1 := Lib.uvarint_pos first
    simp only [vars, List.map_cons, List.map_nil, List.flatten_cons, List.flatten_nil, List.length_append]
    omega
  have hvl : VS.size ≤ 20 := by
    rw [← hVS, show (⟨(vars [first, len]).toArray⟩ : ByteArray).size = (vars [first, len]).length by simp [ByteArray.size]]
    have := vars_length [first, len] (fun z hz => by simp at hz; rcases hz with rfl | rfl <;> omega)
    simp at this
    omega
  rw [hVS, show [first, len].length = 2 from rfl] at CV
  clear hVS
  have HB1 := Lib.hid (show 0 + VS.size ≤ maxLen by unfold maxLen; omega)
  have HB2 := Lib.hid (show (0 + VS.size) * 1 ≤ 140737488355328 by omega)
  have HSV := Lib.hid (fun w1 => src_str VS w1)
  have c0a := fun o => ocell (o := o) hlt c0
  have c1a := fun o => ocell (o := o) hlt c1
  go_enter Tryz.func30, Tryz.ntmps30
  go_wp2_with (fail)
  (with_reducible refine CV.out.mono ?_)
  rintro e w1 ⟨rfl, hb1⟩
  have hB1 : Below wB.heap.size wB w1 := ((Below.refl _ _).alloc (Nat.le_refl _) _).trans (hb1.mono (by simp))
  have HBW1 := Lib.hid hB1
  clear hb1 c0a c1a hwB
  go_wp2_with (at_builtin; refine wpList_append_row _ rfl _ _ 125 9 rfl 5 i0 _ 1 1 Tryz.underlying125 hi hz0 hzs hzb rfl (.slice none 0 0) 0 [] rfl (row_nil _ _ _) _ rfl VS.size _ (HSV.out _) HB1.out HB2.out ?_)
  intro v1 w2 hrow1 hgrow1 hob1
  try simp only [Nat.zero_add, List.nil_append] at hrow1
  have hb2 : Below wB.heap.size wB w2 := hB1.trans ((turn_of_grown (F := []) hgrow1 (fun k hk => by simp [ob] at hk)).below hB1.size (by simp))
  have ho2 := fun k hk => Nat.le_trans hB1.size (ob_newM hob1 k hk)
  have HR1 := Lib.hid hrow1
  have HO2 := Lib.hid ho2
  have HB2' := Lib.hid hb2
  clear hrow1 hgrow1 hob1 hb2 ho2 hB1 c0 c1
  go_wp2_with (fail)
  go_loopw [4, 5] (fun sv iv wr => ∃ (i : Nat) (V : Value) (acc : List UInt8), iv = .int .i64 (i : Int) ∧ V = sv ∧ i ≤ len ∧ Row wr 5 1 V acc.length (Lib.byteCells acc) ∧ (1 ≤ acc.length ∧ acc.length ≤ 20 + i * 60400) ∧ (∀ k, ob V = some k → wB.heap.size ≤ k) ∧ Hid ((ws.take i).all wrOk = true) ∧ Below wB.heap.size wB wr) (fun _ iv _ => len - (intOf iv).toNat)
  case atStart => exact ⟨0, v1, VS.data.toList, rfl, rfl, Nat.zero_le _, by rw [len_data' VS]; exact HR1.out, by rw [len_data' VS]; omega, HO2.out, Lib.hid (by simp), HB2'.out⟩
  case round =>
    obtain ⟨i, V, acc, rfl, rfl, hil0, hrow, ⟨hacc1, hacc⟩, hob, HAL, hbl⟩ := hrel
    have x0 := (hbl.cell (p := ⟨w.heap.size, 0, none⟩) hlt).trans C0.out
    have x1 := (hbl.cell (p := ⟨w.heap.size, 1, none⟩) hlt).trans C1.out
    have hblw : Below w.heap.size w wr := HBB.out.trans (hbl.mono HBB.out.size)
    by_cases hlt' : i < len
    · obtain ⟨b, off, rfl, hblt, ⟨K, U, D⟩, hget, hcell⟩ : ∃ b off, a = some ⟨b, off, none⟩ ∧ b < w.heap.size ∧ ∃ x : Wr, ws[i]? = some x ∧ ∀ j u, x.cells[j]? = some u → wr.cell? ⟨b, off + i * 3 + j, none⟩ = some u := by
        rcases (HE.out.below hblw).2 with h0 | ⟨b, off, e, h1, h2⟩
        · omega
        · exact ⟨b, off, e, h1, ws[i]'(by omega), List.getElem?_eq_getElem (by omega), h2 i (by omega)⟩
      have hbr : b < wr.heap.size := by have := hblw.size; omega
      have q0 : wr.cell? ⟨b, off + i * 3, none⟩ = some (.string K) := hcell 0 _ rfl
      have q1 : wr.cell? ⟨b, off + i * 3 + 1, none⟩ = some (.string U) := hcell 1 _ rfl
      have q2 : wr.cell? ⟨b, off + i * 3 + 2, none⟩ = some (.bool D) := hcell 2 _ rfl
      have hil : (i : Int) < (len : Int) := by omega
      have hks : K.size ≤ 9223372036854775807 ∧ U.size ≤ 9223372036854775807 := by
        have h1 := HOK0.out _ (List.mem_of_getElem? hget)
        unfold Wr.Ok maxLen at h1
        simp only at h1
        omega
      have HBL := Lib.hid (show ∀ (o : Obj), Below w.heap.size w (wr.alloc o) from fun o => hblw.alloc hblw.size o)
      have HNO := Lib.hid (fun h => wrsOk_no hget h)
      have HYS := Lib.hid (fun h => all_next hget h HAL.out)
      have HROW := Lib.hid hrow
      have HOB := Lib.hid hob
      have HBLW := Lib.hid hbl
      clear hcell hget hrow hob hbl hblw
      by_cases hk : K.size ≤ 300
      case neg =>
        have d1 : decide (300 < (K.size : Int)) = true := by simp; omega
        have d1' : decide (300 < K.size) = true := by simp; omega
        go_wp2
        refine bodyPost_ret (results_tmp2 rfl _ _ _) rfl ?_
        exact ⟨⟨⟨#[]⟩, by rw [refV_no (HNO.out (wrOk_not (by omega)))]; rfl⟩, HBL.out _⟩
      have d1 : decide (300 < (K.size : Int)) = false := by simp; omega
      have d1' : decide (300 < K.size) = false := by simp; omega
      by_cases hv : U.size ≤ 60000
      case neg =>
        have d2 : decide (60000 < (U.size : Int)) = true := by simp; omega
        have d2' : decide (60000 < U.size) = true := by simp; omega
        go_wp2
        refine bodyPost_ret (results_tmp2 rfl _ _ _) rfl ?_
        exact ⟨⟨⟨#[]⟩, by rw [refV_no (HNO.out (wrOk_not (by omega)))]; rfl⟩, HBL.out _⟩
      have d2 : decide (60000 < (U.size : Int)) = false := by simp; omega
      have d2' : decide (60000 < U.size) = false := by simp; omega
      by_cases hdv : D = true ∧ U.size ≠ 0
      case pos =>
        obtain ⟨rfl, hv0⟩ := hdv
        have d3 := ne_empty U (by omega)
        go_wp2
        refine bodyPost_ret (results_tmp2 rfl _ _ _) rfl ?_
        exact ⟨⟨⟨#[]⟩, by rw [refV_no (HNO.out (wrOk_not (.inr (.inr ⟨rfl, hv0⟩))))]; rfl⟩, HBL.out _⟩
      have HY := Lib.hid (HYS.out (wrOk_yes hk hv (fun hd => by
        by_cases h : U.size = 0
        · exact h
        · exact absurd ⟨hd, h⟩ hdv)))
      have hdd : D = false ∨ U.toList.isEmpty = true := by
        cases D with
        | false => exact .inl rfl
        | true => exact .inr (empty_yes U (by
            by_cases h : U.size = 0
            · exact h
            · exact absurd ⟨rfl, h⟩ hdv))
      clear hdv
      have hbs : (⟨#[if D then 1 else 0]⟩ : ByteArray).size = 1 := rfl
      have CB := Lib.hid (refBool_any D)
      obtain ⟨BS, hBS⟩ : ∃ BS : ByteArray, (⟨#[if D then 1 else 0]⟩ : ByteArray) = BS := ⟨_, rfl⟩
      rw [hBS] at hbs CB
      have CK := Lib.hid (fun W => refText_any K W (by omega))
      have CU := Lib.hid (fun W => refText_any U W (by omega))
      obtain ⟨TK, hTK⟩ : ∃ TK : ByteArray, (⟨(Lib.uvarint K.size ++ K.data.toList).toArray⟩ : ByteArray) = TK := ⟨_, rfl⟩
      obtain ⟨TU, hTU⟩ : ∃ TU : ByteArray, (⟨(Lib.uvarint U.size ++ U.data.toList).toArray⟩ : ByteArray) = TU := ⟨_, rfl⟩
      have hk1 : TK.size ≤ 310 := by have := text_size K (by omega); rw [hTK] at this; omega
      have hu1 : TU.size ≤ 60010 := by have := text_size U (by omega); rw [hTU] at this; omega
      rw [hTK] at CK
      rw [hTU] at CU
      clear hBS hTK hTU
      have hx1 : (BS ++ TK).size = BS.size + TK.size := by simp
      have hx2 : (BS ++ TK ++ TU).size = BS.size + TK.size + TU.size := by simp
      have j1 : ∀ w, (Op.stringOp .add BS TK).run Tryz.prog w = .ok (.string (BS ++ TK)) w := fun w => run_string_add_sum w _ _ (by omega)
      have j2 : ∀ w, (Op.stringOp .add (BS ++ TK) TU).run Tryz.prog w = .ok (.string (BS ++ TK ++ TU)) w := fun w => run_string_add_sum w _ _ (by omega)
      generalize BS ++ TK = BK at j1 j2 hx1 hx2
      generalize BK ++ TU = BU at j2 hx2
      have HSB := Lib.hid (fun W => src_str BU W)
      have HC1 := Lib.hid (show acc.length + BU.size ≤ maxLen by unfold maxLen; omega)
      have HC2 := Lib.hid (show (acc.length + BU.size) * 1 ≤ 140737488355328 by omega)
      have HACC := Lib.hid (show (acc ++ BU.data.toList).length ≤ 20 + (i + 1) * 60400 by rw [List.length_append, len_data']; omega)
      have HSZ := Lib.hid (show (acc ++ BU.data.toList).length = acc.length + BU.size by rw [List.length_append, len_data'])
      go_upto_region 9 with fail
      go_cut [51] from 33 to 51 (fun bv wx => bv = .bool false ∧ wx = wr.alloc (.cells #[.string K, .string U, .bool D] 82))
      case first =>
        rcases hdd with rfl | hemp
        · go_wp2_with fail
          go_meet
          exact ⟨rfl, rfl⟩
        · cases D
          all_goals (go_wp2_with fail; go_meet; exact ⟨rfl, rfl⟩)
      case rest =>
        obtain ⟨rfl, hwc⟩ := hcut
        have bx : BoxW wc wr.heap.size K U D := by rw [hwc]; exact heap_alloc_new wr _
        have hbc : Below wr.heap.size wr wc := by rw [hwc]; exact (Below.refl _ _).alloc (Nat.le_refl _) _
        have HBC := Lib.hid hbc
        have HBX := Lib.hid bx
        have k0 := bx.k
        have k1 := bx.v
        have k2 := bx.d
        have hlt2 : wr.heap.size < wc.heap.size := (Array.getElem?_eq_some_iff.1 bx).1
        have HRC := Lib.hid (row_belM HROW.out hbc)
        clear hwc hbc bx q0 q1 q2 x0
        have hobx : ∀ k, ob V = some k → k ≠ wr.heap.size := fun k hk => by have := HROW.out.lt k hk; omega
        have HOBX := Lib.hid hobx
        clear hobx
        go_wp2_with fail
        go_region_held3 (fun w' => w'.cell? ⟨wr.heap.size, 0, none⟩ = some (.string K) ∧ w'.cell? ⟨wr.heap.size, 1, none⟩ = some (.string U) ∧ w'.cell? ⟨wr.heap.size, 2, none⟩ = some (.bool D)) (first | go_keep | exact ⟨k0, k1, k2⟩ | exact ⟨m0, m1, m2⟩ | exact ⟨n0, n1, n2⟩ | exact ⟨l0, l1, l2⟩) (first
          | (go_at_call 104; (with_reducible refine (CB.out _).mono ?_); rintro e _ ⟨rfl, rfl⟩)
          | (go_at_call 105; (with_reducible refine (CK.out _).mono ?_); rintro e w6 ⟨rfl, hb6⟩; have m0 := (hb6.cell (p := ⟨wr.heap.size, 0, none⟩) hlt2).trans k0; have m1 := (hb6.cell (p := ⟨wr.heap.size, 1, none⟩) hlt2).trans k1; have m2 := (hb6.cell (p := ⟨wr.heap.size, 2, none⟩) hlt2).trans k2; have hr6 := row_belM (w := wc.drew) (HRC.out.kept fun _ _ => rfl) hb6; have hs6 : wr.heap.size < w6.heap.size := Nat.lt_of_lt_of_le hlt2 hb6.size)
          | (go_at_call 105; (with_reducible refine (CU.out _).mono ?_); rintro e w7 ⟨rfl, hb7⟩; have n0 := (hb7.cell (p := ⟨wr.heap.size, 0, none⟩) hs6).trans m0; have n1 := (hb7.cell (p := ⟨wr.heap.size, 1, none⟩) hs6).trans m1; have n2 := (hb7.cell (p := ⟨wr.heap.size, 2, none⟩) hs6).trans m2; have hr7 := row_belM hr6 hb7; have hs7 : wr.heap.size < w7.heap.size := Nat.lt_of_lt_of_le hs6 hb7.size)
          | (refine step_append_row (P := Tryz.prog) w7 ?hg (.tmp 52) (.tmp 63) 125 9 ?ho 5 i0 _ 1 1 Tryz.underlying125 hi hz0 hzs hzb rfl V _ _ ?hv hr7 (.string BU) ?hx BU.size _ (HSB.out _) HC1.out HC2.out ?hk; (case hg => rfl); (case ho => rfl); (case hv => rfl); (case hx => rfl); intro v' w8 hrow8 hgrow8 hob8; have l0 := (World.cell?_of_block (hgrow8.block wr.heap.size hs7 (fun e => HOBX.out _ e.symm rfl))).trans n0; have l1 := (World.cell?_of_block (hgrow8.block wr.heap.size hs7 (fun e => HOBX.out _ e.symm rfl))).trans n1; have l2 := (World.cell?_of_block (hgrow8.block wr.heap.size hs7 (fun e => HOBX.out _ e.symm rfl))).trans n2)
          | fail)
        all_goals
          have hB6 : Below wB.heap.size wB w6 := HBLW.out.trans ((HBC.out.drew.trans (hb6.mono HBC.out.size)).mono HBLW.out.size)
          have hB7 : Below wB.heap.size wB w7 := hB6.trans (hb7.mono hB6.size)
          have HB8 := Lib.hid (show Below wB.heap.size wB w8 from hB7.trans ((turn_of_grown (F := (ob V).toList) hgrow8 (fun k hk => .inl (by simp [hk]))).below hB7.size (fun k hk => HOB.out k (by simpa using hk))))
          have HR8 := Lib.hid (show Row w8 5 1 v' (acc ++ BU.data.toList).length (Lib.byteCells (acc ++ BU.data.toList)) by rw [HSZ.out, Lib.byteCells_append]; exact hrow8)
          have HO8 := Lib.hid (show ∀ k, ob v' = some k → wB.heap.size ≤ k from fun k hk => by
            rcases hob8 with e | ⟨e, -⟩
            · exact HOB.out k (by rw [← e]; exact hk)
            · rw [e] at hk
              cases hk
              exact hB7.size)
          have HL8 := Lib.hid (show 1 ≤ (acc ++ BU.data.toList).length by rw [List.length_append]; omega)
          clear hB6 hB7 hrow8 hgrow8 hob8 hb6 hb7 hr6 hr7 m0 m1 m2 n0 n1 n2 l0 l1 l2 k0 k1 k2
        all_goals go_wp2
        all_goals go_roundw
        all_goals first
          | exact ⟨i + 1, v', acc ++ BU.data.toList, by go_num, rfl, by omega, HR8.out, ⟨HL8.out, HACC.out⟩, HO8.out, HY, HB8.out⟩
          | (simp [intOf]; omega)
    · obtain rfl : i = len := by omega
      have HN := Lib.hid (show wrsOk ws = true by
        have := HAL.out
        rw [List.take_of_length_le (by omega)] at this
        unfold wrsOk
        rw [this]
        cases ws with
        | nil => simp at hel; omega
        | cons x ws => rfl)
      have HC := Lib.hid (conv_row hrow hacc1)
      obtain ⟨va, vc, rfl, -, -⟩ := hrow.le
      have hcv := HC.out
      have dl : decide (16777216 < (acc.length : Int)) = false := by simp; omega
      have dl' : decide (16777216 < acc.length) = false := by simp; omega
      have HBLW := Lib.hid hblw
      clear hrow hob hbl hblw
      go_wp2
      refine bodyPost_ret (results_tmp2 rfl _ _ _) rfl ?_
      exact ⟨⟨⟨acc.toArray⟩, by rw [refV_yes HN.out]; rfl⟩, HBLW.out⟩
end Go.Proofs.YthaalhigmihijabGreat

namespace Go.Proofs.YthaalhigmihijabGreat
open Go.RowKit

/-- The document's own memory at r: its versions er, its last number. -/
structure RefM (r la : Nat) (rv : Value) (er : List Ent) (w : World) : Prop where
  c0 : w.cell? ⟨r, 0, none⟩ = some rv
  c1 : w.cell? ⟨r, 1, none⟩ = some (.int .u64 (la : Int))
  warm : ∀ j, w.frozen? ⟨r, j, none⟩ = false
  row : Row w 34 4 rv er.length (cellsE er)
  nil : er = [] → rv = .slice none 0 0
  so : er.Pairwise ltE
  fit : ∀ e ∈ er, e.Fit
  off : ob rv ≠ some r
section
variable {r la : Nat} {rv : Value} {er : List Ent} {w w' : World}
theorem RefM.lt (h : RefM r la rv er w) : r < w.heap.size := lt_of_cell h.c0
theorem RefM.keep (h : RefM r la rv er w) (hr : w'.heap[r]? = w.heap[r]?) (hk : ∀ k, ob rv = some k → w'.heap[k]? = w.heap[k]?) : RefM r la rv er w' :=
  ⟨(World.cell?_of_block hr).trans h.c0, (World.cell?_of_block hr).trans h.c1, fun j => (World.frozen?_of_block hr).trans (h.warm j), h.row.kept hk, h.nil, h.so, h.fit, h.off⟩
theorem RefM.below (h : RefM r la rv er w) (hb : Below w.heap.size w w') : RefM r la rv er w' := h.keep (hb.block r h.lt) (fun k hk => hb.block k (h.row.lt k hk))
theorem RefM.setLast (h : RefM r la rv er w) (l : Nat) : RefM r l rv er (w.setCell ⟨r, 1, none⟩ (.int .u64 (l : Int))) :=
  ⟨(World.cell?_setCell_other w _ _ _ (fun q => by cases q)).trans h.c0, World.cell?_setCell_same w _ _ h.c1, fun j => (World.frozen?_setCell _ _ _ _).trans (h.warm j), h.row.kept fun k hk => heap_setCell_other w ⟨r, 1, none⟩ k _ (fun e => h.off (by rw [hk, show k = r from e])), h.nil, h.so, h.fit, h.off⟩
end
theorem RefM.put {r la : Nat} {rv v : Value} {er es : List Ent} {w : World} (h : RefM r la rv er w) (hr : Row w 34 4 v es.length (cellsE es)) (ho : ob v ≠ some r) (hs : es.Pairwise ltE) (hf : ∀ e ∈ es, e.Fit) (hne : es ≠ []) : RefM r la v es (w.setCell ⟨r, 0, none⟩ v) :=
  ⟨World.cell?_setCell_same w _ _ h.c0, (World.cell?_setCell_other w _ _ _ (fun q => by cases q)).trans h.c1, fun j => (World.frozen?_setCell _ _ _ _).trans (h.warm j), hr.kept fun k hk => heap_setCell_other w ⟨r, 0, none⟩ k _ (fun e => ho (by rw [hk, show k = r from e])), fun e => absurd e hne, hs, hf, ho⟩
theorem thereE_iff {x : Ent} {es P Q : List Ent} (ho : es.Pairwise ltE) (hc : CutE x es P Q) : thereE x Q = true ↔ ∃ y ∈ es, same2 y x := by
  constructor
  · intro h
    cases Q with
    | nil => cases h
    | cons y r =>
      have : cmpE y.k y.s x.k x.s = 0 := by simpa [thereE] using h
      exact ⟨y, by rw [hc.all]; simp, (cmpE_eq _ _ _ _).1 this⟩
  · rintro ⟨y, hy, hs⟩
    have h0 : cmpE y.k y.s x.k x.s = 0 := (cmpE_eq _ _ _ _).2 hs
    rw [hc.all] at hy ho
    rcases List.mem_append.1 hy with hp | hq
    · have := hc.ahead y hp
      unfold ltE at this
      omega
    · cases Q with
      | nil => cases hq
      | cons q r =>
        rcases List.mem_cons.1 hq with rfl | hq
        · simp [thereE, h0]
        · have h1 : ltE q y := (List.pairwise_cons.1 (List.pairwise_append.1 ho).2.1).1 y hq
          have h2 : ltE q x := by
            unfold ltE at h1 ⊢
            rw [hs.1, hs.2] at h1
            exact h1
          exact absurd h2 (hc.behind q (by simp))
theorem thereE_no {x : Ent} {es P Q : List Ent} (hs : es.Pairwise ltE) (hc : CutE x es P Q) (hn : ∀ y ∈ es, ¬ same2 y x) : thereE x Q = false := by
  cases h : thereE x Q with
  | false => rfl
  | true =>
    obtain ⟨y, hy, h2⟩ := (thereE_iff hs hc).1 h
    exact absurd h2 (hn y hy)
theorem cutE_put {x : Ent} {es P Q : List Ent} (hs : es.Pairwise ltE) (hc : CutE x es P Q) (hn : ∀ y ∈ es, ¬ same2 y x) : (P ++ x :: Q).Pairwise ltE ∧ ∀ e, e ∈ P ++ x :: Q ↔ e ∈ es ∨ e = x := by
  have ho := hs
  rw [hc.all] at ho
  obtain ⟨o1, o2, o3⟩ := List.pairwise_append.1 ho
  constructor
  · rw [List.pairwise_append]
    refine ⟨o1, List.pairwise_cons.2 ⟨fun y hy => ?_, o2⟩, fun y hy z hz => ?_⟩
    · have h1 := hc.behind y hy
      have h2 := hn y (by rw [hc.all]; simp [hy])
      have h3 : cmpE y.k y.s x.k x.s ≠ 0 := fun e => h2 ((cmpE_eq _ _ _ _).1 e)
      have h4 := cmpE_vals y.k y.s x.k x.s
      have h5 := cmpE_swap y.k y.s x.k x.s
      unfold ltE at h1 ⊢
      omega
    · rcases List.mem_cons.1 hz with rfl | hz
      · exact hc.ahead y hy
      · exact o3 y hy z hz
  · intro e
    rw [hc.all]
    simp only [List.mem_append, List.mem_cons]
    constructor
    · rintro (h | h | h)
      · exact .inl (.inl h)
      · exact .inr h
      · exact .inl (.inr h)
    · rintro ((h | h) | h)
      · exact .inl h
      · exact .inr (.inr h)
      · exact .inr (.inl h)
theorem ins_yes {x : Ent} {P Q : List Ent} {e : Ending} {v : Value} {w w' : World} {n : Nat} (ht : thereE x Q = false) (h : (thereE x Q = true ∧ e = .returned (.tuple #[v, .bool false])) ∨ (thereE x Q = false ∧ ∃ v', e = .returned (.tuple #[v', .bool true]) ∧ Row w' 34 4 v' (n + 1) (cellsE (P ++ x :: Q)) ∧ (∀ b, ob v' = some b → w.heap.size ≤ b))) : ∃ v', e = .returned (.tuple #[v', .bool true]) ∧ Row w' 34 4 v' (n + 1) (cellsE (P ++ x :: Q)) ∧ (∀ b, ob v' = some b → w.heap.size ≤ b) := by
  rcases h with ⟨h1, -⟩ | ⟨-, h⟩
  · rw [ht] at h1
    cases h1
  · exact h
set_option maxHeartbeats 8000000 in
set_option maxRecDepth 100000 in
theorem refAdd_any {r la : Nat} {rv : Value} {er : List Ent} {w : World} (h : RefM r la rv er w) (hold : ∀ e ∈ er, e.s ≤ (la : Int)) (first : Nat) (a : Option Addr) (len cap : Nat) (ws : List Wr) (hE : WrsAt w.heap.size w a len ws) (hok : ∀ x ∈ ws, x.Ok) (ha : ∀ b off, a = some ⟨b, off, none⟩ → 0 < len → b ≠ r) (hl : len ≤ 60) (hf : first < 18446744073709551616) (hL : er.length ≤ 50000) (hla : la < 18446744073709551616) :
    Calls Tryz.prog 11 #[.pointer (some ⟨r, 0, none⟩), .int .u64 (first : Int), .slice a len cap] w fun e w' => e = .returned (addV la first ws) ∧ ∃ rv' er', RefM r (addLa la first ws) rv' er' w' ∧ (∀ e, e ∈ er' ↔ e ∈ addL er la first ws) ∧ (∀ k, ob rv' = some k → ob rv = some k ∨ w.heap.size ≤ k) ∧ Turn [r] w w' := by
  have hel := hE.1
  have CB := refPut_any first a len cap ws w hE hl hok hf
  have HH := Lib.hid h
  have HE := Lib.hid hE
  have HA := Lib.hid ha
  have HOLD := Lib.hid hold
  have HRL := Lib.hid h.lt
  have hlw : IntKind.u64.wrap (len : Int) = (len : Int) := by rw [IntKind.wrap_u64]; omega
  cases hw : wrsOk ws with
  | false =>
    have CB := Lib.hid (CB.mono fun e w' (h : (∃ bs, e = .returned (refV ws bs)) ∧ Below w.heap.size w w') => (show e = .returned (.tuple #[.string ⟨#[]⟩, .int .i64 1]) ∧ Below w.heap.size w w' from ⟨by obtain ⟨⟨bs, rfl⟩, -⟩ := h; rw [refV_no hw], h.2⟩))
    have HN := Lib.hid (addOk_no (addOk_bad (la := la) (first := first) (.inl hw)) er)
    clear h hE ha hok hw hold
    go_enter Tryz.func11, Tryz.ntmps11
    go_wp2_with (first | (go_at_call 30; (with_reducible refine CB.out.mono ?_); rintro e w1 ⟨rfl, hb⟩) | fail)
    refine bodyPost_ret (results_tmp2 rfl _ _ _) rfl ?_
    exact ⟨by rw [HN.out.1]; rfl, rv, er, by rw [HN.out.2.2]; exact HH.out.below hb, fun e => by rw [HN.out.2.1], fun k hk => .inl hk, turn_of_below hb⟩
  | true =>
    have CB := Lib.hid (CB.mono fun e w' (h : (∃ bs, e = .returned (refV ws bs)) ∧ Below w.heap.size w w') => (show ∃ bs, e = .returned (.tuple #[.string bs, .int .i64 0]) ∧ Below w.heap.size w w' from by obtain ⟨⟨bs, rfl⟩, hb⟩ := h; exact ⟨bs, by rw [refV_yes hw], hb⟩))
    have HPOS := Lib.hid (wrsOk_pos hw)
    have HWS := Lib.hid (wrsOk_all hw)
    by_cases hgo : la < first ∧ first + len ≤ 4611686018427387904
    case neg =>
      have HN := Lib.hid (addOk_no (addOk_bad (la := la) (first := first) (ws := ws) (by rw [hel]; omega)) er)
      clear h hE ha hok hw hold
      by_cases g1 : la < first
      case neg =>
        have d1 : decide ((first : Int) ≤ (la : Int)) = true := by simp; omega
        have d1' : decide (first ≤ la) = true := by simp; omega
        go_enter Tryz.func11, Tryz.ntmps11
        go_wp2_with (first | (go_at_call 30; (with_reducible refine CB.out.mono ?_); rintro e w1 ⟨bs, rfl, hb⟩; have hc1 := (HH.out.below hb).c1) | fail)
        refine bodyPost_ret (results_tmp2 rfl _ _ _) rfl ?_
        exact ⟨by rw [HN.out.1]; rfl, rv, er, by rw [HN.out.2.2]; exact HH.out.below hb, fun e => by rw [HN.out.2.1], fun k hk => .inl hk, turn_of_below hb⟩
      have d1 : decide ((first : Int) ≤ (la : Int)) = false := by simp; omega
      have d1' : decide (first ≤ la) = false := by simp; omega
      by_cases g2 : first ≤ 4611686018427387904
      case neg =>
        have d2 : decide (4611686018427387904 < (first : Int)) = true := by simp; omega
        have d2' : decide (4611686018427387904 < first) = true := by simp; omega
        go_enter Tryz.func11, Tryz.ntmps11
        go_wp2_with (first | (go_at_call 30; (with_reducible refine CB.out.mono ?_); rintro e w1 ⟨bs, rfl, hb⟩; have hc1 := (HH.out.below hb).c1) | fail)
        refine bodyPost_ret (results_tmp2 rfl _ _ _) rfl ?_
        exact ⟨by rw [HN.out.1]; rfl, rv, er, by rw [HN.out.2.2]; exact HH.out.below hb, fun e => by rw [HN.out.2.1], fun k hk => .inl hk, turn_of_below hb⟩
      have d2 : decide (4611686018427387904 < (first : Int)) = false := by simp; omega
      have d2' : decide (4611686018427387904 < first) = false := by simp; omega
      have hsub : IntKind.u64.wrap (4611686018427387904 - (first : Int)) = 4611686018427387904 - (first : Int) := by rw [IntKind.wrap_u64]; omega
      have d3 : decide (4611686018427387904 - (first : Int) < (len : Int)) = true := by simp; omega
      go_enter Tryz.func11, Tryz.ntmps11
      go_wp2_with (first | (go_at_call 30; (with_reducible refine CB.out.mono ?_); rintro e w1 ⟨bs, rfl, hb⟩; have hc1 := (HH.out.below hb).c1) | fail)
      refine bodyPost_ret (results_tmp2 rfl _ _ _) rfl ?_
      exact ⟨by rw [HN.out.1]; rfl, rv, er, by rw [HN.out.2.2]; exact HH.out.below hb, fun e => by rw [HN.out.2.1], fun k hk => .inl hk, turn_of_below hb⟩
    obtain ⟨g1, g2⟩ := hgo
    have d1 : decide ((first : Int) ≤ (la : Int)) = false := by simp; omega
    have d1' : decide (first ≤ la) = false := by simp; omega
    have d2 : decide (4611686018427387904 < (first : Int)) = false := by simp; omega
    have d2' : decide (4611686018427387904 < first) = false := by simp; omega
    have hsub : IntKind.u64.wrap (4611686018427387904 - (first : Int)) = 4611686018427387904 - (first : Int) := by rw [IntKind.wrap_u64]; omega
    have d3 : decide (4611686018427387904 - (first : Int) < (len : Int)) = false := by simp; omega
    have HY := Lib.hid (addOk_yes (addOk_of hw g1 (by rw [hel]; exact g2)) er)
    clear h hE ha hok hw hold
    go_enter Tryz.func11, Tryz.ntmps11
    go_wp2_with (first | (go_at_call 30; (with_reducible refine CB.out.mono ?_); rintro e w1 ⟨bs, rfl, hb⟩; have hc1 := (HH.out.below hb).c1) | fail)
    have HB := Lib.hid hb
    clear hb hc1
    go_loopw [10] (fun iv wr => ∃ (i : Nat) (rv' : Value) (er' : List Ent), iv = .int .i64 (i : Int) ∧ i ≤ len ∧ RefM r la rv' er' wr ∧ (∀ e, e ∈ er' ↔ e ∈ er ∨ e ∈ (vers first ws).take i) ∧ er'.length ≤ er.length + i ∧ (∀ k, ob rv' = some k → ob rv = some k ∨ w.heap.size ≤ k) ∧ Turn [r] w wr) (fun iv _ => len - (intOf iv).toNat)
    case atStart => exact ⟨0, rv, er, rfl, Nat.zero_le _, HH.out.below HB.out, fun e => by simp, by omega, fun k hk => .inl hk, turn_of_below HB.out⟩
    case round =>
      obtain ⟨i, rv', er', rfl, hil0, hrm, hmem, hlen, hobs, htu⟩ := hrel
      have HRM := Lib.hid hrm
      have HMEM := Lib.hid hmem
      have HOBS := Lib.hid hobs
      have HTU := Lib.hid htu
      by_cases hlt : i < len
      · have hil : (i : Int) < (len : Int) := by omega
        obtain ⟨b, off, rfl, hblt, ⟨K, V, D⟩, hget, hcell⟩ : ∃ b off, a = some ⟨b, off, none⟩ ∧ b < w.heap.size ∧ ∃ x : Wr, ws[i]? = some x ∧ ∀ j u, x.cells[j]? = some u → wr.cell? ⟨b, off + i * 3 + j, none⟩ = some u := by
          rcases HE.out.2 with h0 | ⟨b, off, e, h1, h2⟩
          · omega
          · exact ⟨b, off, e, h1, ws[i]'(by omega), List.getElem?_eq_getElem (by omega), fun j u hu => (htu.cell h1 (by simp; exact HA.out b off e (by omega))).trans (h2 i (by omega) j u hu)⟩
        have hbr : b < wr.heap.size := Nat.lt_of_lt_of_le hblt htu.size
        have q0 : wr.cell? ⟨b, off + i * 3, none⟩ = some (.string K) := hcell 0 _ rfl
        have q1 : wr.cell? ⟨b, off + i * 3 + 1, none⟩ = some (.string V) := hcell 1 _ rfl
        have q2 : wr.cell? ⟨b, off + i * 3 + 2, none⟩ = some (.bool D) := hcell 2 _ rfl
        have hwx : wrOk ⟨K, V, D⟩ = true := HWS.out _ (List.mem_of_getElem? hget)
        have hget2 : (vers first ws)[i]? = some (verE ⟨K, V, D⟩ (first + i)) := by
          have := vers_get ws first i (by omega)
          rw [this]
          rw [List.getElem?_eq_getElem (by omega)] at hget
          rw [Option.some.inj hget]
        have hw1 : IntKind.u64.wrap (i : Int) = (i : Int) := by rw [IntKind.wrap_u64]; omega
        have hw2 : IntKind.u64.wrap ((first : Int) + (i : Int)) = ((first + i : Nat) : Int) := by rw [IntKind.wrap_u64]; omega
        have HFI := Lib.hid (show first + i < 18446744073709551616 by omega)
        have HNEW := Lib.hid (show ∀ y ∈ er', ¬ same2 y (verE ⟨K, V, D⟩ (first + i)) from fun y hy hs => by
          have h2 : y.s = ((first + i : Nat) : Int) := hs.2
          rcases (hmem y).1 hy with h1 | h1
          · have := HOLD.out _ h1
            omega
          · have := vers_take h1
            omega)
        generalize first + i = S at hw2 hget2 HFI HNEW
        have HG2 := Lib.hid hget2
        have HWX := Lib.hid hwx
        clear hcell hget hget2 hrm hmem hobs htu hwx
        go_upto_region 9 with fail
        go_cut [11] from 46 to 60 (fun xv wx => xv = .pointer (some ⟨wr.heap.size, 0, none⟩) ∧ Boxe wr.heap.size K (S : Int) 1 V wx ∧ Below wr.heap.size wr wx)
        case first =>
          go_wp2_with fail
          go_region_held3 (fun w' => w'.cell? ⟨b, off + i * 3, none⟩ = some (.string K) ∧ w'.cell? ⟨b, off + i * 3 + 1, none⟩ = some (.string V)) (first | go_keep | exact ⟨ocell hbr q0, ocell hbr q1⟩) (fail)
          all_goals go_wp2
          all_goals go_meet
          all_goals exact ⟨rfl, new_block _ _ rfl, ((Below.refl _ _).alloc (Nat.le_refl _) _).drew⟩
        case rest =>
          obtain ⟨rfl, hxW, hbW⟩ := hcut
          obtain ⟨W, rfl⟩ : ∃ W, W = wc := ⟨_, rfl⟩
          have p2 := (hbW.cell (p := ⟨b, off + i * 3 + 2, none⟩) hbr).trans q2
          have f2 := hxW.f 2
          have g2' := hxW.c2
          have HBW := Lib.hid hbW
          have HXW := Lib.hid hxW
          clear hbW hxW q0 q1 q2
          go_upto_if 65 with fail
          go_cut [11] from 61 to 66 (fun xv wx => xv = .pointer (some ⟨wr.heap.size, 0, none⟩) ∧ Boxe wr.heap.size K (S : Int) (if D = true then 2 else 1) V wx ∧ Below wr.heap.size wr wx)
          case first =>
            cases D with
            | false =>
              go_wp2_with fail
              go_meet
              exact ⟨rfl, HXW.out, HBW.out⟩
            | true =>
              go_wp2_with fail
              go_meet
              exact ⟨rfl, (heap_setCell_same W wr.heap.size 2 _ _ (.int .i64 2) HXW.out).trans rfl, HBW.out.setCell (show wr.heap.size ≤ wr.heap.size from Nat.le_refl _) _⟩
          case rest =>
          obtain ⟨rfl, hbx, hbc⟩ := hcut
          clear p2 f2 g2'
          obtain ⟨P, Q, hc⟩ := cutE_of (verE ⟨K, V, D⟩ S) er' HRM.out.so
          have hth := thereE_no HRM.out.so hc HNEW.out
          have hput := cutE_put HRM.out.so hc HNEW.out
          have hrc := HRM.out.below hbc
          have CI0 : ∀ W, Row W 34 4 rv' er'.length (cellsE er') → Calls Tryz.prog 31 #[rv', .agg #[.string K, .int .u64 (S : Int), .int .i64 (if D = true then 2 else 1), .string V]] W (fun e w' => Below W.heap.size W w' ∧ ∃ v', e = .returned (.tuple #[v', .bool true]) ∧ Row w' 34 4 v' (er'.length + 1) (cellsE (P ++ verE ⟨K, V, D⟩ S :: Q)) ∧ (∀ b, ob v' = some b → W.heap.size ≤ b)) := fun W hR => (insert_any rv' er' P Q (verE ⟨K, V, D⟩ S) W hR hrc.nil (by omega) hc (fun y hy => Nat.le_trans (hrc.fit y hy).1 (by omega)) (Nat.le_trans (wrOk_sizes HWX.out).1 (by omega))).mono fun e w' h => ⟨h.1, ins_yes hth h.2⟩
          obtain ⟨kd, hkd⟩ : ∃ kd : Int, (if D = true then 2 else 1) = kd := ⟨_, rfl⟩
          rw [hkd] at hbx CI0
          have CI := Lib.hid CI0
          clear CI0 hkd
          have HCL := Lib.hid (show (P ++ verE ⟨K, V, D⟩ S :: Q).length = er'.length + 1 by rw [hc.all]; simp; omega)
          have HTH := Lib.hid hth
          have HPUT := Lib.hid hput
          have HRC := Lib.hid (show RefM r la rv' er' wc.drew from hrc.keep rfl (fun _ _ => rfl))
          have HBC := Lib.hid hbc
          have HROW := Lib.hid (show Row wc.drew 34 4 rv' er'.length (cellsE er') from hrc.row.kept fun _ _ => rfl)
          have r0 := hrc.c0
          have x0 := hbx.c0
          have x1 := hbx.c1
          have x2 := hbx.c2
          have x3 := hbx.c3
          have hrlt := hrc.lt
          have hxlt := hbx.lt
          obtain ⟨ra, rc, rfl, -, -⟩ := hrc.row.le
          clear hc hth hput hrc hbc hbx
          go_upto_region 12 with fail
          go_region_with (first
            | (go_at_call 31; (with_reducible refine (CI.out _ HROW.out).mono ?_); rintro e w6 ⟨hb6, v6, rfl, hr6, ho6⟩; have s0 := (hb6.cell (p := ⟨r, 0, none⟩) hrlt).trans r0; have y0 := (hb6.cell (p := ⟨wr.heap.size, 0, none⟩) hxlt).trans x0; have y1 := (hb6.cell (p := ⟨wr.heap.size, 1, none⟩) hxlt).trans x1; have y2 := (hb6.cell (p := ⟨wr.heap.size, 2, none⟩) hxlt).trans x2; have y3 := (hb6.cell (p := ⟨wr.heap.size, 3, none⟩) hxlt).trans x3; have hr0f := (HRC.out.below (w' := w6) hb6).warm 0; obtain ⟨a6, c6, rfl, -, -⟩ := hr6.le)
            | fail)
          all_goals
            have hle : wc.heap.size ≤ w6.heap.size := hb6.size
            have hrm6 := (HRC.out.below (w' := w6) hb6).put (v := .slice a6 (er'.length + 1) c6) (es := P ++ verE ⟨K, V, D⟩ S :: Q) (by rw [HCL.out]; exact hr6) (fun e => by have := ho6 r e; have h2 : wc.drew.heap.size = wc.heap.size := rfl; omega) HPUT.out.1 (fun e he => by
              rcases (HPUT.out.2 e).1 he with h1 | h1
              · exact HRM.out.fit e h1
              · rw [h1]
                exact verE_fit HWX.out HFI.out) (by simp)
            have HR6 := Lib.hid hrm6
            have HO6 := Lib.hid (show ∀ k, ob (.slice a6 (er'.length + 1) c6) = some k → ob rv = some k ∨ w.heap.size ≤ k from fun k hk => .inr (Nat.le_trans HTU.out.size (Nat.le_trans HBC.out.size (ho6 k hk))))
            have HT6 := Lib.hid (show Turn [r] w (w6.setCell ⟨r, 0, none⟩ (.slice a6 (er'.length + 1) c6)) from (((HTU.out.trans (turn_of_below (F := []) HBC.out) (by simp)).drew.trans (turn_of_below (F := []) hb6) (by simp)).setCell (.inl (by simp)) _))
            have HM6 := Lib.hid (show ∀ e, e ∈ P ++ verE ⟨K, V, D⟩ S :: Q ↔ e ∈ er ∨ e ∈ (vers first ws).take (i + 1) from fun e => by
              rw [HPUT.out.2 e, HMEM.out e, List.take_add_one, HG2.out]
              simp only [Option.toList, List.mem_append, List.mem_singleton]
              constructor
              · rintro ((h | h) | h)
                · exact .inl h
                · exact .inr (.inl h)
                · exact .inr (.inr h)
              · rintro (h | h | h)
                · exact .inl (.inl h)
                · exact .inl (.inr h)
                · exact .inr h)
            clear hrm6 hb6 hr6 ho6 s0 y0 y1 y2 y3 hr0f
          all_goals go_wp2
          all_goals go_roundw
          all_goals first
            | exact ⟨i + 1, _, _, by go_num, by omega, HR6.out, HM6.out, by rw [HCL.out]; omega, HO6.out, HT6.out⟩
            | (simp [intOf]; omega)
      · obtain rfl : i = len := by omega
        have c1 := hrm.c1
        have f1 := hrm.warm 1
        have hwa : IntKind.u64.wrap ((first : Int) + (i : Int)) = (first : Int) + (i : Int) := by rw [IntKind.wrap_u64]; omega
        have hwb : IntKind.u64.wrap ((first : Int) + (i : Int) - 1) = (first : Int) + (i : Int) - 1 := by rw [IntKind.wrap_u64]; omega
        clear hrm hmem hobs htu
        go_wp2
        refine bodyPost_ret (results_tmp2 rfl _ _ _) rfl ?_
        have e1 : ((first + ws.length - 1 : Nat) : Int) = (first : Int) + (i : Int) - 1 := by have := HPOS.out; omega
        have e2 : ((first + ws.length : Nat) : Int) = (first : Int) + (i : Int) := by omega
        have hd2 := HRM.out.setLast (first + ws.length - 1)
        rw [e1] at hd2
        refine ⟨by rw [HY.out.1, e2]; rfl, rv', er', ?_, fun e => ?_, HOBS.out, HTU.out.setCell (.inl (by simp)) _⟩
        · rw [HY.out.2.2]
          exact hd2
        · rw [HMEM.out e, HY.out.2.1, List.mem_append, List.take_of_length_le (by rw [vers_length]; omega)]
end Go.Proofs.YthaalhigmihijabGreat

namespace Go.Proofs.YthaalhigmihijabGreat
open Go.RowKit

theorem sizeL_take (l : List Ent) (i : Nat) (h : i < l.length) : sizeL (l.take (i + 1)) = sizeL (l.take i) + sizeE l[i] := by
  rw [List.take_add_one, List.getElem?_eq_getElem h, sizeL_append]
  simp [sizeL]
theorem sizeL_perm {l m : List Ent} (h : l.Perm m) : sizeL l = sizeL m := (h.map sizeE).sum_nat
set_option maxHeartbeats 2000000 in
set_option maxRecDepth 100000 in
theorem refSize_any {r la : Nat} {rv : Value} {er : List Ent} {w : World} (h : RefM r la rv er w) (hl : er.length ≤ 50000) :
    Calls Tryz.prog 19 #[.pointer (some ⟨r, 0, none⟩)] w fun e w' => e = .returned (.int .i64 (sizeL er : Int)) ∧ Below w.heap.size w w' := by
  obtain ⟨a, cap, rfl, hE⟩ := row_ents h.row
  have HE := Lib.hid hE
  have HF := Lib.hid h.fit
  have HC := Lib.hid h.c0
  have hrlt := h.lt
  clear h hE
  go_enter Tryz.func19, Tryz.ntmps19
  go_wp2
  go_loopw [3, 4] (fun nv iv wr => ∃ i : Nat, nv = .int .i64 ((sizeL (er.take i) : Nat) : Int) ∧ iv = .int .i64 (i : Int) ∧ i ≤ er.length ∧ Below w.heap.size w wr) (fun _ iv _ => er.length - (intOf iv).toNat)
  case atStart => exact ⟨0, rfl, rfl, Nat.zero_le _, Below.refl _ _⟩
  case round =>
    obtain ⟨i, rfl, rfl, hi, hbl⟩ := hrel
    have c0 := (hbl.cell (p := ⟨r, 0, none⟩) hrlt).trans HC.out
    by_cases hlt : i < er.length
    · obtain ⟨b, off, rfl, hblt, hcell⟩ : ∃ b off, a = some ⟨b, off, none⟩ ∧ b < w.heap.size ∧ ∀ j u, er[i].cells[j]? = some u → wr.cell? ⟨b, off + i * 4 + j, none⟩ = some u := by
        rcases (HE.out.below hbl).2 with h0 | ⟨b, off, e, h1, h2⟩
        · omega
        · exact ⟨b, off, e, h1, h2 i hlt⟩
      have q0 : wr.cell? ⟨b, off + i * 4, none⟩ = some (.string er[i].k) := hcell 0 _ rfl
      have q3 : wr.cell? ⟨b, off + i * 4 + 3, none⟩ = some (.string er[i].v) := hcell 3 _ rfl
      have hfit := HF.out er[i] (List.getElem_mem _)
      have HT := Lib.hid (sizeL_take er i hlt)
      have hs := sizeL_le (er.take i) 50000 (fun e he => HF.out e (List.mem_of_mem_take he)) (by rw [List.length_take]; omega)
      have HX := Lib.hid (show sizeE er[i] = er[i].k.size + er[i].v.size + 16 from rfl)
      have k1 := hfit.1
      have k2 := hfit.2.1
      generalize sizeL (er.take i) = n at *
      generalize er[i].k = K at *
      generalize er[i].v = V at *
      generalize sizeE er[i] = z at *
      have hil : (i : Int) < (er.length : Int) := by omega
      have w1 : IntKind.i64.wrap ((n : Int) + (K.size : Int)) = (n : Int) + (K.size : Int) := by rw [IntKind.wrap_i64]; omega
      have w2 : IntKind.i64.wrap ((n : Int) + (K.size : Int) + (V.size : Int)) = (n : Int) + (K.size : Int) + (V.size : Int) := by rw [IntKind.wrap_i64]; omega
      have w3 : IntKind.i64.wrap ((n : Int) + (K.size : Int) + (V.size : Int) + 16) = (n : Int) + (K.size : Int) + (V.size : Int) + 16 := by rw [IntKind.wrap_i64]; omega
      have HB := Lib.hid hbl
      clear hcell hfit hbl
      go_wp2
      go_quiet (fail)
      go_wp2
      go_roundw
      case rel =>
        refine ⟨i + 1, ?_, by go_num, by omega, belowN HB.out _⟩
        have e1 := HT.out
        have e2 := HX.out
        have e3 : (n : Int) + (K.size : Int) + (V.size : Int) + 16 = ((sizeL (er.take (i + 1)) : Nat) : Int) := by omega
        rw [← e3]
      case measure => simp [intOf]; omega
    · obtain rfl : i = er.length := by omega
      rw [List.take_length]
      go_wp2
      go_ret
      exact ⟨rfl, hbl⟩
end Go.Proofs.YthaalhigmihijabGreat

namespace Go.Proofs.YthaalhigmihijabGreat
open Go.RowKit

theorem Book.move {B b : Nat} {ks ls F : List Nat} {xs rd : List (Value × List ElEntries)} {w w' : World} (h : Book B b ks xs rd w) (ht : Turn F w w') (hF : ∀ k ∈ F, k ∈ ks ∨ w.heap.size ≤ k) (hl : ∀ k ∈ ls, k ∈ ks ∨ w.heap.size ≤ k) : Book B b ls xs rd w' := by
  have h1 : Book B b (ls ++ ks) xs rd w := h.other (fun k hk => by
    rcases List.mem_append.1 hk with hk | hk
    · exact hl k hk
    · exact .inl hk)
  exact (h1.turned (ht.mono (fun k hk => (hF k hk).imp (fun h => List.mem_append_right _ h) id))).other (fun k hk => .inl (List.mem_append_left _ hk))
section
variable {B p sz la : Nat} {ds : List Int} {ns : List Nd} {L : List Ent} {w w' : World}
theorem Tab.kept (h : Tab B p ds ns sz la w) (hk : ∀ k ∈ foot p ns, w'.heap[k]? = w.heap[k]?) (hd' : ∀ v k, w.cell? ⟨p, 13, none⟩ = some v → ob v = some k → w'.heap[k]? = w.heap[k]?) : Tab B p ds ns sz la w' := by
  have hp := hk p (by simp [foot, hd])
  refine ⟨⟨h.skp.lst.kept hk, h.skp.right, h.skp.base⟩, ?_, (World.cell?_of_block hp).trans h.size, (World.cell?_of_block hp).trans h.last⟩
  obtain ⟨v, h1, h2, h3⟩ := h.dr
  exact ⟨v, (World.cell?_of_block hp).trans h1, h2.kept fun k hk' => hd' v k h1 hk', h3⟩
end
def ks8 (p : Nat) (ns : List Nd) (dv : Value) (r : Nat) (rv : Value) (ex : List Nat) : List Nat := foot p ns ++ ((ob dv).toList ++ (r :: ((ob rv).toList ++ ex)))
structure St8 (B p r b : Nat) (ds : List Int) (L : List Ent) (la lr : Nat) (ns : List Nd) (dv rv : Value) (er : List Ent) (ex : List Nat) (xs rd : List (Value × List ElEntries)) (w : World) : Prop where
  mem : Mem B p ds L la ns w
  dc : w.cell? ⟨p, 13, none⟩ = some dv
  ref : RefM r lr rv er w
  nd : (ks8 p ns dv r rv ex).Nodup
  base : ∀ k ∈ ks8 p ns dv r rv ex, B ≤ k ∧ k < w.heap.size
  book : Book B b (ks8 p ns dv r rv ex) xs rd w
section
variable {B p r b la lr la' lr' : Nat} {ds : List Int} {L L' : List Ent} {ns ns' : List Nd} {dv rv rv' : Value} {er er' : List Ent} {ex : List Nat} {xs rd : List (Value × List ElEntries)} {w w' : World}
theorem k8_foot {k : Nat} (h : k ∈ foot p ns) : k ∈ ks8 p ns dv r rv ex := List.mem_append_left _ h
theorem k8_d {k : Nat} (h : ob dv = some k) : k ∈ ks8 p ns dv r rv ex := by simp [ks8, h]
theorem k8_r : r ∈ ks8 p ns dv r rv ex := by simp [ks8]
theorem k8_rv {k : Nat} (h : ob rv = some k) : k ∈ ks8 p ns dv r rv ex := by simp [ks8, h]
theorem k8_x {k : Nat} (h : k ∈ ex) : k ∈ ks8 p ns dv r rv ex := by simp [ks8, h]
theorem St8.size (h : St8 B p r b ds L la lr ns dv rv er ex xs rd w) : B ≤ w.heap.size := h.mem.tab.skp.size
theorem St8.keep (h : St8 B p r b ds L la lr ns dv rv er ex xs rd w) (hk : ∀ k ∈ ks8 p ns dv r rv ex, w'.heap[k]? = w.heap[k]?) (hs : w.heap.size ≤ w'.heap.size) {xs' rd' : List (Value × List ElEntries)} (hb : Book B b (ks8 p ns dv r rv ex) xs' rd' w') : St8 B p r b ds L la lr ns dv rv er ex xs' rd' w' where
  mem := ⟨h.mem.tab.kept (fun k hm => hk k (k8_foot hm)) (fun v k hv e => by
    rw [h.dc] at hv
    cases hv
    exact hk k (k8_d e)), h.mem.mem, h.mem.len, h.mem.old⟩
  dc := (World.cell?_of_block (hk p (k8_foot (by simp [foot, hd])))).trans h.dc
  ref := h.ref.keep (hk r k8_r) (fun k e => hk k (k8_rv e))
  nd := h.nd
  base := fun k hm => ⟨(h.base k hm).1, Nat.lt_of_lt_of_le (h.base k hm).2 hs⟩
  book := hb
theorem St8.below (h : St8 B p r b ds L la lr ns dv rv er ex xs rd w) (hb : Below w.heap.size w w') : St8 B p r b ds L la lr ns dv rv er ex xs rd w' :=
  h.keep (fun k hm => hb.block k (h.base k hm).2) hb.size (h.book.below hb)
theorem St8.forget (h : St8 B p r b ds L la lr ns dv rv er ex xs rd w) : St8 B p r b ds L la lr ns dv rv er ex xs [] w := h.keep (fun _ _ => rfl) (Nat.le_refl _) h.book.forget
theorem St8.row (h : St8 B p r b ds L la lr ns dv rv er ex xs rd w) (hb : Below w.heap.size w w') {v : Value} {zs : List ElEntries} (hr : (rwEntries (v, zs)).ok w.heap.size w') : St8 B p r b ds L la lr ns dv rv er ex ((v, zs) :: xs) rd w' :=
  h.keep (fun k hm => hb.block k (h.base k hm).2) hb.size (h.book.row hb hr h.size (fun k hm => (h.base k hm).2))
theorem St8.addE {A C : List (Value × List ElEntries)} {v : Value} {zs : List ElEntries} (h : St8 B p r b ds L la lr ns dv rv er ex (A ++ (v, zs) :: C) rd w) (hz : zs.length ≤ 100000) :
    Calls Tryz.prog 15 #[.pointer (some ⟨b, 0, none⟩), v] w fun e w' => e = .returned (.tuple #[]) ∧ St8 B p r b ds L la lr ns dv rv er ex (A ++ C) ((v, zs) :: rd) w' ∧ (∀ k ∈ ex, w'.heap[k]? = w.heap[k]?) ∧ Below B w w' := by
  refine (h.book.addE hz h.size h.nd h.base).mono ?_
  rintro e w' ⟨rfl, h1, h2, h3⟩
  exact ⟨rfl, h.keep h2 h3.size h1, fun k hk => h2 k (k8_x hk), h3⟩
theorem St8.addX (h : St8 B p r b ds L la lr ns dv rv er ex xs rd w) (hb : Below w.heap.size w w') {k : Nat} (h1 : w.heap.size ≤ k) (h2 : k < w'.heap.size) : St8 B p r b ds L la lr ns dv rv er (k :: ex) xs rd w' := by
  have hs := h.below hb
  have hp : (ks8 p ns dv r rv (k :: ex)).Perm (k :: ks8 p ns dv r rv ex) := by
    unfold ks8
    rw [List.perm_iff_count]
    intro a
    simp only [List.count_append, List.count_cons]
    omega
  have hk : ∀ q ∈ ks8 p ns dv r rv (k :: ex), q = k ∨ q ∈ ks8 p ns dv r rv ex := fun q hq => List.mem_cons.1 (hp.mem_iff.1 hq)
  refine ⟨hs.mem, hs.dc, hs.ref, ?_, fun q hq => ?_, ?_⟩
  · refine hp.nodup_iff.2 (List.nodup_cons.2 ⟨fun hm => ?_, h.nd⟩)
    have := (h.base k hm).2
    omega
  · rcases hk q hq with rfl | hq
    · exact ⟨Nat.le_trans h.size h1, h2⟩
    · exact hs.base q hq
  · refine (h.book.other (ls := ks8 p ns dv r rv (k :: ex)) (fun q hq => ?_)).below hb
    rcases hk q hq with rfl | hq
    · exact .inr h1
    · exact .inl hq
theorem St8.drop (h : St8 B p r b ds L la lr ns dv rv er ex xs rd w) : St8 B p r b ds L la lr ns dv rv er [] xs rd w := by
  have hp : (ks8 p ns dv r rv ex).Perm (ex ++ ks8 p ns dv r rv []) := by
    unfold ks8
    rw [List.perm_iff_count]
    intro a
    simp only [List.count_append, List.count_cons, List.count_nil]
    omega
  have hk : ∀ k ∈ ks8 p ns dv r rv [], k ∈ ks8 p ns dv r rv ex := fun k hm => hp.mem_iff.2 (List.mem_append_right _ hm)
  exact ⟨h.mem, h.dc, h.ref, (List.nodup_append.1 (hp.nodup_iff.1 h.nd)).2.1, fun k hm => h.base k (hk k hm), h.book.other (fun k hm => .inl (hk k hm))⟩
theorem St8.exlt (h : St8 B p r b ds L la lr ns dv rv er ex xs rd w) {k : Nat} (hk : k ∈ ex) : k ∉ foot p ns ∧ k ≠ r := by
  have hn := h.nd
  unfold ks8 at hn
  obtain ⟨-, n2, n3⟩ := List.nodup_append.1 hn
  refine ⟨fun hf => n3 k hf k (by simp [hk]) rfl, fun e => ?_⟩
  subst e
  have := (List.nodup_append.1 n2).2.1
  exact (List.nodup_cons.1 this).1 (by simp [hk])
/-- Behind the table's Add. -/
theorem St8.madd (h : St8 B p r b ds L la lr ns dv rv er ex xs rd w) (hm : Mem B p ds L' la' ns' w') (ht : Turn (foot p ns) w w') (hf : ∀ k ∈ foot p ns', k ∈ foot p ns ∨ w.heap.size ≤ k) (h13 : Same13 p w w') : St8 B p r b ds L' la' lr ns' dv rv er ex xs rd w' := by
  have hnd := h.nd
  unfold ks8 at hnd
  obtain ⟨n1, n2, n3⟩ := List.nodup_append.1 hnd
  have hrest : ∀ k ∈ (ob dv).toList ++ (r :: ((ob rv).toList ++ ex)), k ∉ foot p ns := fun k hk hf => n3 k hf k hk rfl
  have hrb : ∀ k ∈ (ob dv).toList ++ (r :: ((ob rv).toList ++ ex)), B ≤ k ∧ k < w.heap.size := fun k hk => h.base k (List.mem_append_right _ hk)
  have hks : ∀ k ∈ ks8 p ns' dv r rv ex, k ∈ ks8 p ns dv r rv ex ∨ w.heap.size ≤ k := fun k hm => by
    unfold ks8 at hm ⊢
    rcases List.mem_append.1 hm with hm | hm
    · rcases hf k hm with h1 | h1
      · exact .inl (List.mem_append_left _ h1)
      · exact .inr h1
    · exact .inl (List.mem_append_right _ hm)
  refine ⟨hm, Eq.trans h13 h.dc, h.ref.keep (ht.block r (hrb r (by simp)).2 (hrest r (by simp))) (fun k e => ht.block k (hrb k (by simp [e])).2 (hrest k (by simp [e]))), ?_, fun k hm' => ?_, h.book.move ht (fun k hk => .inl (k8_foot hk)) hks⟩
  · unfold ks8
    refine List.nodup_append.2 ⟨hm.tab.skp.lst.nodup, n2, fun x hx y hy he => ?_⟩
    subst he
    rcases hf x hx with h1 | h1
    · exact hrest x hy h1
    · have := (hrb x hy).2
      omega
  · unfold ks8 at hm'
    rcases List.mem_append.1 hm' with hm' | hm'
    · exact ⟨hm.tab.skp.base k hm', hm.tab.skp.lst.lt k hm'⟩
    · exact ⟨(hrb k hm').1, Nat.lt_of_lt_of_le (hrb k hm').2 ht.size⟩
/-- Behind the document's own Add. -/
theorem St8.radd (h : St8 B p r b ds L la lr ns dv rv er ex xs rd w) (hr : RefM r lr' rv' er' w') (ht : Turn [r] w w') (ho : ∀ k, ob rv' = some k → ob rv = some k ∨ w.heap.size ≤ k) : St8 B p r b ds L la lr' ns dv rv' er' ex xs rd w' := by
  have hp : (ks8 p ns dv r rv ex).Perm (r :: ((ob rv).toList ++ (foot p ns ++ ((ob dv).toList ++ ex)))) := by
    unfold ks8
    rw [List.perm_iff_count]
    intro a
    simp only [List.count_append, List.count_cons]
    omega
  have hp' : (ks8 p ns dv r rv' ex).Perm (r :: ((ob rv').toList ++ (foot p ns ++ ((ob dv).toList ++ ex)))) := by
    unfold ks8
    rw [List.perm_iff_count]
    intro a
    simp only [List.count_append, List.count_cons]
    omega
  have hn := hp.nodup_iff.1 h.nd
  obtain ⟨m1, m2⟩ := List.nodup_cons.1 hn
  obtain ⟨m3, m4, m5⟩ := List.nodup_append.1 m2
  have hoff : ∀ k ∈ foot p ns ++ ((ob dv).toList ++ ex), k ≠ r ∧ B ≤ k ∧ k < w.heap.size := fun k hk => ⟨fun e => m1 (by rw [← e]; exact List.mem_append_right _ hk), h.base k (hp.mem_iff.2 (List.mem_cons_of_mem _ (List.mem_append_right _ hk)))⟩
  have hks : ∀ k ∈ ks8 p ns dv r rv' ex, k ∈ ks8 p ns dv r rv ex ∨ w.heap.size ≤ k := fun k hm => by
    rcases List.mem_cons.1 (hp'.mem_iff.1 hm) with rfl | hm
    · exact .inl k8_r
    · rcases List.mem_append.1 hm with hm | hm
      · rcases ho k (by simpa using hm) with h1 | h1
        · exact .inl (k8_rv h1)
        · exact .inr h1
      · exact .inl (hp.mem_iff.2 (List.mem_cons_of_mem _ (List.mem_append_right _ hm)))
  refine ⟨h.mem.turned ht (fun k hk hm => ?_) (fun v k hv e hm => ?_), (ht.cell h.mem.tab.hdlt (fun hm => ?_)).trans h.dc, hr, ?_, fun k hm => ?_, h.book.move ht (fun k hk => .inl (by rw [List.mem_singleton] at hk; rw [hk]; exact k8_r)) hks⟩
  · rw [List.mem_singleton] at hm
    exact (hoff k (List.mem_append_left _ hk)).1 hm
  · rw [h.dc] at hv
    cases hv
    rw [List.mem_singleton] at hm
    exact (hoff k (by simp [e])).1 hm
  · rw [List.mem_singleton] at hm
    exact (hoff p (by simp [foot, hd])).1 hm
  · refine hp'.nodup_iff.2 (List.nodup_cons.2 ⟨fun hm => ?_, List.nodup_append.2 ⟨by cases ob rv' <;> simp, m4, fun x hx y hy he => ?_⟩⟩)
    · rcases List.mem_append.1 hm with hm | hm
      · exact hr.off (by simpa using hm)
      · exact (hoff r hm).1 rfl
    · subst he
      rcases ho x (by simpa using hx) with h1 | h1
      · exact m5 x (by simp [h1]) x hy rfl
      · have := (hoff x hy).2.2
        omega
  · rcases List.mem_cons.1 (hp'.mem_iff.1 hm) with rfl | hm
    · exact ⟨(h.base k k8_r).1, hr.lt⟩
    · rcases List.mem_append.1 hm with hm | hm
      · refine ⟨?_, hr.row.lt k (by simpa using hm)⟩
        rcases ho k (by simpa using hm) with h1 | h1
        · exact (h.base k (k8_rv h1)).1
        · exact Nat.le_trans h.size h1
      · exact ⟨(hoff k hm).2.1, Nat.lt_of_lt_of_le (hoff k hm).2.2 ht.size⟩
end
end Go.Proofs.YthaalhigmihijabGreat

namespace Go.Proofs.YthaalhigmihijabGreat
open Go.RowKit

section
variable {B p r b la lr sz : Nat} {ds : List Int} {L : List Ent} {ns : List Nd} {dv rv : Value} {er : List Ent} {ex : List Nat} {xs rd : List (Value × List ElEntries)} {w w' : World}
theorem memRange_own {P Q : List Nd} {k : ByteArray} (tk : ByteArray) (h : Tab B p ds ns sz la w) (hc : Cut k 18446744073709551615 ns P Q) (hl : ns.length ≤ 1000000) :
    Calls Tryz.prog 14 #[.pointer (some ⟨p, 0, none⟩), .string k, .string tk] w fun e w' => ∃ v, e = .returned v ∧ (rwEntries (v, (entsOf (upto tk Q)).map elOf)).ok w.heap.size w' ∧ Below w.heap.size w w' := by
  have C := Lib.hid (between_own tk h.skp.lst h.skp.right hc hl)
  clear h hc
  go_enter Tryz.func14, Tryz.ntmps14
  go_wp2_with (first | (go_at_call 33; (with_reducible refine C.out.mono ?_); rintro e w1 ⟨v, rfl, hv, ho, hb⟩) | fail)
  go_ret
  exact ⟨v, rfl, ho, hb⟩
theorem St8.range {P Q : List Nd} {k : ByteArray} (h : St8 B p r b ds L la lr ns dv rv er ex xs rd w) (tk : ByteArray) (hc : Cut k 18446744073709551615 ns P Q) (hl : L.length ≤ 100000) :
    Calls Tryz.prog 14 #[.pointer (some ⟨p, 0, none⟩), .string k, .string tk] w fun e w' => ∃ v, e = .returned v ∧ St8 B p r b ds L la lr ns dv rv er ex ((v, (entsOf (upto tk Q)).map elOf) :: xs) rd w' ∧ Below w.heap.size w w' := by
  refine (memRange_own tk h.mem.tab hc (by rw [h.mem.len]; omega)).mono ?_
  rintro e w' ⟨v, rfl, h2, h3⟩
  exact ⟨v, rfl, h.row h3 h2, h3⟩
theorem rangeE_upto {k tk : ByteArray} {ns P Q : List Nd} (hr : Right ns) (hc : Cut k 18446744073709551615 ns P Q) : rangeE k tk (entsOf ns) = entsOf (upto tk Q) := by
  rw [range_filter hr.ord hr.fit hc tk]
  unfold rangeE
  apply List.filter_congr
  intro e _
  unfold inRange lessB
  rw [ByteArray.toList_eq e.k, ByteArray.toList_eq k, less_cb]
  congr 1
  rw [ByteArray.toList_eq tk, less_cb]
  congr 1
  by_cases h0 : tk.size = 0
  · have := to_no h0
    rw [ByteArray.toList_eq] at this
    rw [this, decide_eq_true h0]
  · have := to_ne h0
    rw [ByteArray.toList_eq] at this
    rw [this, decide_eq_false h0]
theorem St8.rrange {P Q : List Nd} {k : ByteArray} (h : St8 B p r b ds L la lr ns dv rv (entsOf ns) ex xs rd w) (tk : ByteArray) (hc : Cut k 18446744073709551615 ns P Q) (hl : L.length ≤ 100000) (hk : k.size ≤ 300) (ht : tk.size ≤ 300) :
    Calls Tryz.prog 17 #[rv, .string k, .string tk] w fun e w' => ∃ v, e = .returned v ∧ Rd w' v ((entsOf (upto tk Q)).map elOf).length (cellsEntries ((entsOf (upto tk Q)).map elOf)) ∧ Below w.heap.size w w' := by
  obtain ⟨a, cap, rfl, hE⟩ := row_ents h.ref.row
  refine (range_any a _ cap (entsOf ns) k tk w (Nat.le_refl _) hE (by rw [ents_len, h.mem.len]; omega) (fit_keys h.mem.tab.skp.right) (by omega) (by omega)).mono ?_
  rw [rangeE_upto h.mem.tab.skp.right hc]
  rintro e w' ⟨v, rfl, h1, h2, -, h4⟩
  refine ⟨v, rfl, rd_of_row (B := 0) h1 h2 (fun _ _ => Nat.zero_le _) (fun x hx => nonneg_ents h.mem.tab.skp.right x ?_), h4⟩
  obtain ⟨n, hn, rfl⟩ := mem_entsOf.1 hx
  have hsub : n ∈ Q := by
    unfold upto at hn
    split at hn
    · exact hn
    · exact List.takeWhile_subset _ hn
  exact mem_entsOf.2 ⟨n, by rw [hc.all]; simp [hsub], rfl⟩
theorem St8.pick {P Q : List Nd} {k : ByteArray} {s : Int} (h : St8 B p r b ds L la lr ns dv rv (entsOf ns) ex xs rd w) (hc : Cut k s ns P Q) (hl : L.length ≤ 100000) :
    Calls Tryz.prog 13 #[rv, .string k, .int .u64 s] w fun e w' => e = .returned (getV (getR k Q)) ∧ Below w.heap.size w w' := by
  obtain ⟨a, cap, rfl, hE⟩ := row_ents h.ref.row
  have := pickF_any a _ cap (entsOf ns) k s w (Nat.le_refl _) hE (by rw [ents_len, h.mem.len]; omega)
  rw [pick_cut h.mem.tab.skp.right.ord hc] at this
  exact this
/-- Both have the same versions. -/
theorem St8.same (h : St8 B p r b ds L la lr ns dv rv er ex xs rd w) (hm : ∀ e, e ∈ er ↔ e ∈ L) : er = entsOf ns :=
  sorted_ext _ _ h.ref.so (ents_ord h.mem.tab.skp.right.ord) (fun e => (hm e).trans (h.mem.mem e).symm)
theorem perm_of_len {α : Type} : ∀ l m : List α, l.Nodup → (∀ x ∈ l, x ∈ m) → m.length ≤ l.length → l.Perm m
  | [], m, _, _, hl => by
    have : m = [] := List.length_eq_zero_iff.1 (by simpa using hl)
    rw [this]
  | a :: l, m, hn, hs, hl => by
    obtain ⟨s, t, rfl⟩ := List.append_of_mem (hs a (by simp))
    rw [List.nodup_cons] at hn
    refine List.Perm.trans ?_ List.perm_middle.symm
    refine List.Perm.cons a (perm_of_len l (s ++ t) hn.2 (fun x hx => ?_) (by simp at hl ⊢; omega))
    have h1 := hs x (List.mem_cons_of_mem _ hx)
    simp only [List.mem_append, List.mem_cons] at h1 ⊢
    rcases h1 with h | h | h
    · exact .inl h
    · exact absurd (h ▸ hx) hn.1
    · exact .inr h
theorem St8.sizes (h : St8 B p r b ds L la lr ns dv rv er ex xs rd w) : sizeL (entsOf ns) = sizeL L := by
  have hn : (entsOf ns).Nodup := by
    rw [List.nodup_iff_pairwise_ne]
    refine (ents_ord h.mem.tab.skp.right.ord).imp ?_
    intro x y hxy e
    rw [e] at hxy
    exact ltE_irr y hxy
  exact sizeL_perm (perm_of_len _ _ hn (fun x hx => (h.mem.mem x).1 hx) (by rw [ents_len, h.mem.len]; exact Nat.le_refl _))
end
end Go.Proofs.YthaalhigmihijabGreat

namespace Go.Proofs.YthaalhigmihijabGreat
open Go.RowKit Go.ChangeShapes Go.WideShapes Go.ChangeAt

theorem add_plainI (b o j : Nat) : (⟨b, o, none⟩ : Addr).add j = ⟨b, o + j, none⟩ := by unfold Addr.add; split <;> simp_all
theorem cellsIntI : Tryz.prog.cellsOf 3 = 1 := by kernel_rfl
def fitsI (k : Int) : Prop := -9223372036854775808 ≤ k ∧ k ≤ 9223372036854775807
def IsRowI (w : World) (a : Option Addr) (ks : List Int) : Prop :=
  ks = [] ∨ ∃ b off, a = some ⟨b, off, none⟩ ∧ ∀ i (h : i < ks.length), w.cell? ⟨b, off + i, none⟩ = some (.int .i64 ks[i])
def IsIs (w : World) (a : Option Addr) (len : Nat) (ks : List Int) : Prop := len ≤ maxLen ∧ ks.length = len ∧ (∀ k ∈ ks, fitsI k) ∧ IsRowI w a ks
theorem rowI_of {H : Type} {enc : TypeId × Value → H} {w : World} {base fuel : Nat} {held : Bool} {a : Option Addr} {len cap : Nat} {x : DataW H × List MemPlace}
    (h : DataW.trod enc Tryz.prog w base (fun _ => true) held fuel 22 (Value.slice a len cap).cells.toList = some x) : len ≤ maxLen ∧ ∃ ks : List Int, ks.length = len ∧ (∀ k ∈ ks, fitsI k) ∧ IsRowI w a ks := by
  rcases open_ints Tryz.underlying22 Tryz.underlying3 cellsIntI h with ⟨hcs, _⟩ | ⟨y, l, c, zs, hcs, _, hl, hm, hz, _, hcell, hwz⟩
  · simp [Value.cells] at hcs
    obtain ⟨rfl, rfl, rfl⟩ := hcs
    exact ⟨by unfold maxLen; omega, [], rfl, by simp, .inl rfl⟩
  · simp [Value.cells] at hcs
    obtain ⟨rfl, rfl, rfl⟩ := hcs
    have hz' : zs.length = cap := by simpa using hz
    refine ⟨Nat.le_trans hl hm, zs.take len, by simp; omega, fun k hk => bounds_i64 (hwz k (List.mem_of_mem_take hk)), ?_⟩
    by_cases h0 : len = 0
    · left; subst h0; rfl
    · right
      have hc0 := hcell 0 (by omega)
      obtain ⟨b, off, spot⟩ := y
      have hs : spot = none := by simpa [Addr.add] using World.cell?_spot hc0
      subst hs
      refine ⟨b, off, rfl, ?_⟩
      intro i hi
      have hi' : i < len := by simp at hi; omega
      have hci := hcell i (by omega)
      have e : (zs.take len)[i] = zs[i]'(by omega) := by simp
      have e2 : zs.getD i 0 = zs[i]'(by omega) := by simp [List.getD, List.getElem?_eq_getElem (show i < zs.length by omega)]
      rw [e2] at hci
      rw [e]
      rw [add_plainI] at hci
      exact hci
end Go.Proofs.YthaalhigmihijabGreat

namespace Go.Proofs.YthaalhigmihijabGreat
open Go.RowKit Go.ChangeShapes Go.WideShapes Go.ChangeAt

theorem rowI_nil {H : Type} {enc : TypeId × Value → H} {w : World} {base fuel : Nat} {held : Bool} {a : Option Addr} {len cap : Nat} {x : DataW H × List MemPlace}
    (h : DataW.trod enc Tryz.prog w base (fun _ => true) held fuel 22 (Value.slice a len cap).cells.toList = some x) : a = none → cap = 0 := by
  rcases open_ints Tryz.underlying22 Tryz.underlying3 cellsIntI h with ⟨hcs, _⟩ | ⟨y, l, c, zs, hcs, _, hl, hm, hz, _, hcell, hwz⟩
  · simp [Value.cells] at hcs
    exact fun _ => hcs.2.2
  · simp [Value.cells] at hcs
    intro e
    rw [hcs.1] at e
    cases e
theorem intsV_of {w : World} {a : Option Addr} {len cap : Nat} {ks : List Int} (h : IsIs w a len ks) (hn : a = none → cap = 0) : IntsV w (.slice a len cap) ks := by
  obtain ⟨-, hl, -, hr⟩ := h
  subst hl
  cases a with
  | none =>
    rcases hr with rfl | ⟨b, off, e, -⟩
    · exact .inl ⟨by rw [hn rfl]; rfl, rfl⟩
    · cases e
  | some y =>
    rcases hr with rfl | ⟨b, off, e, hc⟩
    · exact .inr ⟨y, cap, rfl, fun j u hu => by simp [cellsI] at hu⟩
    · cases e
      refine intsV_plain b off cap ks fun j u hu => ?_
      unfold cellsI at hu
      rw [List.getElem?_map] at hu
      obtain ⟨k, hk, rfl⟩ := Option.map_eq_some_iff.1 hu
      obtain ⟨hj, rfl⟩ := List.getElem?_eq_some_iff.1 hk
      exact hc j hj
end Go.Proofs.YthaalhigmihijabGreat
