/- The document own Var, Text, Vars. -/
import Derived.Test.YthaalhigmihijacGreatBR1
import Derived.Test.YthaalhigmihijacGreatRows
import Derived.WalkKit
import Derived.OwnWalk
import Derived.WalkSpells
import Derived.WalkLawsBesides
import Derived.BigCall
import Derived.Laws.IdiomStrings
import Derived.Laws.BitsAllLaws
import Derived.Lib.VarintMem
import Derived.Lib.Zigzag
import Derived.Lib.VarintDec
import Derived.Lib.Slices
import Derived.Outline
import Derived.Lib.BufferRead
import Derived.Lib.Hide
import Derived.Lib.AppendIntMem
import Derived.Lib.ItoaLen
import Derived.Lib.VarintBits
import Derived.BigQuiet
import Derived.Deep.QuietTactic
import Derived.Deep.RegionWith
import Derived.ProofKit
import Derived.SliceStrings
import Derived.OpenShut
import Derived.Lib.AppendStr
namespace Go.Proofs.YthaalhigmihijacGreat
open Go.RowKit
open Go.RowKit Go.ChangeShapes Go.WideShapes Go.ChangeAt

/-- The bytes of numbers, one behind the other. -/
def vars (zs : List Nat) : List UInt8 := (zs.map Lib.uvarint).flatten
theorem vars_snoc (zs : List Nat) (z : Nat) : vars (zs ++ [z]) = vars zs ++ Lib.uvarint z := by simp [vars]
theorem vars_length : ∀ (zs : List Nat), (∀ z ∈ zs, z < 18446744073709551616) → (vars zs).length ≤ 10 * zs.length
  | [], _ => by simp [vars]
  | z :: r, h => by
    have h1 := Lib.uvarint_length64 (h z (by simp))
    have h2 := vars_length r (fun x hx => h x (by simp [hx]))
    simp only [vars, List.map_cons, List.flatten_cons, List.length_append, List.length_cons] at *
    omega
theorem take_snoc_nat (zs : List Nat) (k : Nat) (h : k < zs.length) : zs.take (k + 1) = zs.take k ++ [zs[k]] := by
  rw [List.take_succ_eq_append_getElem h]
theorem strCells_eq (s : ByteArray) : Lib.strCells s = Lib.byteCells s.data.toList := rfl
theorem own_below {w w1 : World} {B : Nat} {e : TypeId} {z : Nat} {v : Value} {n : Nat} {xs : List Value} (h : w.ownsRow B e z v n xs) (hb : Below w.heap.size w w1) : w1.ownsRow B e z v n xs :=
  h.kept (grownBy_of_below hb none) (by cases v.ownBlock <;> simp)
set_option maxHeartbeats 1000000 in
set_option maxRecDepth 100000 in
theorem refVar_any (x : Nat) (hx : x < 18446744073709551616) (w : World) :
    Calls Tryz.prog 56 #[.int .u64 x] w fun e w' => e = .returned (.string ⟨(Lib.uvarint x).toArray⟩) ∧ Below w.heap.size w w' := by
  obtain ⟨i0, hi, hz0, hz1, hz2⟩ := info_parts infoByte
  have hlen := Lib.uvarint_length64 hx
  go_enter Tryz.func56, Tryz.ntmps56
  go_wp2
  go_loopw [0, 3] (fun vx vb wr => ∃ (y : Nat) (pre : List UInt8), vx = .int .u64 y ∧ y ≤ x ∧ Lib.uvarint x = pre ++ Lib.uvarint y ∧ wr.ownsRow w.heap.size 5 1 vb pre.length (Lib.byteCells pre) ∧ Below w.heap.size w wr)
    (fun vx _ _ => (intOf vx).toNat)
  case atStart => exact ⟨x, [], rfl, Nat.le_refl _, rfl, by simpa [Lib.byteCells] using World.ownsRow_nil w _ _ _, Below.refl _ _⟩
  case round =>
    obtain ⟨y, pre, rfl, hy, hsplit, hown1, hnx⟩ := hrel
    have hpl : pre.length + (Lib.uvarint y).length ≤ 10 := by
      have h2 := congrArg List.length hsplit
      rw [List.length_append] at h2
      omega
    have hyp := Lib.uvarint_pos y
    have HSP := Lib.hid hsplit
    clear hsplit
    by_cases h128 : 128 ≤ y
    · have hm : IntKind.u8.wrap ((y : Int) % 128) = (y : Int) % 128 := by rw [IntKind.wrap_u8']; omega
      go_wp2_with (at_builtin; refine wpList_append_own _ rfl _ _ 90 rfl w.heap.size 5 i0 (.int .u8 0) 1 1 Tryz.underlying90 hi hz0 hz1 hz2 rfl (by decide) _ _ _ rfl (hown1.alloc _) ⟨wr.heap.size, 0, none⟩ 1 1 [Value.int .u8 ((y : Int) % 128 + 128)] rfl rfl ?c1 ?c2 ?c3 ?c4 ?c5 ?_)
      case c1 =>
        intro j u hj
        match j, hj with
        | 0, hj => simp at hj; subst hj; simp [Addr.add]
      case c2 => intro u hu; simp at hu; subst hu; rfl
      case c3 => unfold maxLen; omega
      case c4 => omega
      case c5 => have := hnx.size; simp; omega
      intro v' w1 hown' hgrow _
      have hnx1 : Below w.heap.size w w1 := (hnx.alloc (by have := hnx.size; omega) _).grown hgrow (by have := hnx.size; simp; omega) (fun k hk => (hown1.lt k hk).1)
      go_wp2
      go_roundw
      case rel =>
        refine ⟨y / 128, pre ++ [(y % 128 + 128).toUInt8], by go_num, by omega, by rw [HSP.out, Lib.uvarint_big h128]; simp, ?_, hnx1⟩
        have ec : ((y % 128 + 128 : Nat) : Int) = (y : Int) % 128 + 128 := by omega
        rw [Lib.byteCells_snoc pre (by omega), List.length_append, List.length_singleton, ec]
        exact hown'
      case measure => simp [intOf]; omega
    · have hsm : Lib.uvarint y = [y.toUInt8] := Lib.uvarint_small (by omega)
      have HSM := Lib.hid hsm
      clear hsm
      go_wp2_with (at_builtin; refine wpList_append_own _ rfl _ _ 90 rfl w.heap.size 5 i0 (.int .u8 0) 1 1 Tryz.underlying90 hi hz0 hz1 hz2 rfl (by decide) _ _ _ rfl (hown1.alloc _) ⟨wr.heap.size, 0, none⟩ 1 1 [Value.int .u8 (y : Int)] rfl rfl ?c1 ?c2 ?c3 ?c4 ?c5 ?_)
      case c1 =>
        intro j u hj
        match j, hj with
        | 0, hj => simp at hj; subst hj; simp [Addr.add]
      case c2 => intro u hu; simp at hu; subst hu; rfl
      case c3 => unfold maxLen; omega
      case c4 => omega
      case c5 => have := hnx.size; simp; omega
      intro v' w1 hown' hgrow _
      have hnx1 : Below w.heap.size w w1 := (hnx.alloc (by have := hnx.size; omega) _).grown hgrow (by have := hnx.size; simp; omega) (fun k hk => (hown1.lt k hk).1)
      have hown2 : w1.ownsRow w.heap.size 5 1 v' (pre.length + 1) (Lib.byteCells (Lib.uvarint x)) := by
        rw [HSP.out, HSM.out, Lib.byteCells_snoc pre (by omega)]
        exact hown'
      have hcv := conv_own hown2 (by rw [HSP.out, HSM.out]; simp)
      clear hown' hown2 hgrow
      go_wp2
      go_ret
      exact ⟨rfl, hnx1⟩
set_option maxHeartbeats 1000000 in
theorem refText_any (s : ByteArray) (w : World) (hs : s.size ≤ 1000000) :
    Calls Tryz.prog 52 #[.string s] w fun e w' => e = .returned (.string ⟨(Lib.uvarint s.size ++ s.data.toList).toArray⟩) ∧ Below w.heap.size w w' := by
  have HU := Lib.hid (show s.size < 18446744073709551616 by omega)
  have hl := Lib.uvarint_length64 (x := s.size) (by omega)
  go_enter Tryz.func52, Tryz.ntmps52
  go_wp2_with (go_at_call 56; refine (refVar_any s.size HU.out _).mono ?_; rintro e w1 ⟨rfl, hb1⟩)
  go_ret
  refine ⟨?_, hb1⟩
  rw [← cat_str, show (⟨s.data.toList.toArray⟩ : ByteArray) = s by apply ByteArray.ext; simp]
  rfl
set_option maxHeartbeats 1000000 in
set_option maxRecDepth 100000 in
theorem refVars_any (b off cap : Nat) (zs : List Nat) (w : World) (hr : ∀ z ∈ zs, z < 18446744073709551616) (hlim : zs.length ≤ 1000000)
    (hc : ∀ i (h : i < zs.length), w.cell? ⟨b, off + i, none⟩ = some (.int .u64 (zs[i] : Int))) (hb : b < w.heap.size) :
    Calls Tryz.prog 53 #[.slice (some ⟨b, off, none⟩) zs.length cap] w fun e w' => e = .returned (.string ⟨(vars zs).toArray⟩) ∧ Below w.heap.size w w' := by
  obtain ⟨i0, hi, hz0, hz1, hz2⟩ := info_parts infoByte
  go_enter Tryz.func53, Tryz.ntmps53
  go_wp2
  go_loopw [3, 4] (fun vb i wr => ∃ k : Nat, k ≤ zs.length ∧ i = .int .i64 k ∧ wr.ownsRow w.heap.size 5 1 vb (vars (zs.take k)).length (Lib.byteCells (vars (zs.take k))) ∧ Below w.heap.size w wr)
    (fun _ i _ => zs.length - (intOf i).toNat)
  case atStart => exact ⟨0, Nat.zero_le _, rfl, by simpa [vars, Lib.byteCells] using World.ownsRow_nil w _ _ _, Below.refl _ _⟩
  case round =>
    obtain ⟨k, hk, rfl, hown, hnx⟩ := hrel
    by_cases hlt : k < zs.length
    · have hcx : wr.cell? ⟨b, off + k, none⟩ = some (.int .u64 (zs[k] : Int)) := (hnx.cell (by exact hb)).trans (hc k hlt)
      have hl1 := vars_length (zs.take k) (fun z hz => hr z (List.mem_of_mem_take hz))
      have hl2 : (zs.take k).length ≤ k := List.length_take_le _ _
      have hz := hr zs[k] (List.getElem_mem hlt)
      have hu := Lib.uvarint_length64 hz
      have HT := Lib.hid (take_snoc_nat zs k hlt)
      have HZ := Lib.hid hz
      have hsz : (⟨(Lib.uvarint zs[k]).toArray⟩ : ByteArray).size ≤ 10 := by show (Lib.uvarint zs[k]).toArray.size ≤ 10; simpa using hu
      clear hz
      go_wp2_with fail
      refine (refVar_any zs[k] HZ.out _).mono ?_
      rintro e w1 ⟨rfl, hb1⟩
      have hown1 := own_below hown hb1
      have hnx1 := hnx.trans (hb1.mono hnx.size)
      go_wp2_with (at_builtin; refine Lib.wpList_append_own_string _ rfl _ _ 90 9 rfl w.heap.size 5 i0 Tryz.underlying90 Tryz.underlying9 hi hz0 hz1 hz2 _ _ _ rfl hown1 _ rfl ?c1 ?c2 ?c3 ?_)
      case c1 => unfold maxLen; omega
      case c2 => omega
      case c3 => exact hnx1.size
      intro v' w2 hown2 hgrow2 _
      have hnx2 : Below w.heap.size w w2 := hnx1.grown hgrow2 hnx1.size (fun j hj => (hown1.lt j hj).1)
      clear hown hown1 hgrow2
      go_wp2
      go_roundw
      case rel =>
        refine ⟨k + 1, by omega, by go_num, ?_, hnx2⟩
        rw [HT.out, vars_snoc, List.length_append, Lib.byteCells_append]
        have e1 : (⟨(Lib.uvarint zs[k]).toArray⟩ : ByteArray).size = (Lib.uvarint zs[k]).length := by show (Lib.uvarint zs[k]).toArray.size = _; simp
        have e2 : Lib.strCells (⟨(Lib.uvarint zs[k]).toArray⟩ : ByteArray) = Lib.byteCells (Lib.uvarint zs[k]) := by rw [strCells_eq]
        rw [← e1, ← e2]
        exact hown2
      case measure => simp [intOf]; omega
    · have hke : k = zs.length := by omega
      have hcv := conv_own hown rfl
      go_wp2
      go_ret
      refine ⟨?_, hnx⟩
      subst hke
      simp
end Go.Proofs.YthaalhigmihijacGreat
