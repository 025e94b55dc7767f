/- The statements' Book, lists of kind Texts: one more list is kept, and a copy of it. -/
import Derived.Test.YtfndlfnlepndmaaGreatOmTexts
import Derived.BigRegion
import Derived.Deep.RegionLaw
namespace Go.Proofs.YtfndlfnlepndmaaGreat
open Go.RowKit

theorem bookAddTexts {B : Nat} {w : World} {old rest : List Rw} {r1 r2 r3 r4 : Rw} {U : Value} {us : List Value} {x : Value}
    (h : Own B w (⟨56, 1, U, us.length + 1, us ++ [x], none⟩ :: (old ++ (r1 :: r2 :: r3 :: r4 :: rest)))) : Own B w (r2 :: (r1 :: r3 :: r4 :: outRTexts U (us ++ [x]) :: rest)) := by
  have h1 : Own B w (⟨56, 1, U, us.length + 1, us ++ [x], none⟩ :: (r1 :: r2 :: r3 :: r4 :: rest)) := h.sub (List.Sublist.cons_cons _ (List.sublist_append_right _ _))
  have hr : (⟨56, 1, U, us.length + 1, us ++ [x], none⟩ : Rw) = outRTexts U (us ++ [x]) := by simp [outRTexts]
  rw [hr] at h1
  refine h1.perm ?_
  generalize outRTexts U (us ++ [x]) = O
  have e1 : (O :: r1 :: r2 :: r3 :: r4 :: rest).Perm (r1 :: r2 :: r3 :: r4 :: O :: rest) := (List.perm_middle (l₁ := [r1, r2, r3, r4]) (l₂ := rest)).symm
  exact e1.trans (List.Perm.swap _ _ _)
set_option maxHeartbeats 2000000 in
set_option maxRecDepth 100000 in
theorem addTexts_any (B b : Nat) (cs : List Value) (V W v : Value) (vs us : List Value) (zs : List ByteArray) (rest : List Rw) (w : World) (hcs : cs[0]? = some V) (hcw : cs[1]? = some W)
    (hown : Own B w (rwTexts (v, zs) :: outRTexts V vs :: outRTexts W us :: bookR b cs :: rest)) (hl : vs.length < 250) (hu : us.length < 250) (hz : zs.length ≤ 1000000) (hB : B ≤ w.heap.size) :
    Calls Tryz.prog 14 #[.pointer (some ⟨b, 0, none⟩), v] w fun e w' => e = .returned (.tuple #[]) ∧ Below B w w' ∧ ∃ V' W' v', Own B w' (rwTexts (v', zs) :: rwTexts (v, zs) :: outRTexts V' (vs ++ [v]) :: outRTexts W' (us ++ [v']) :: bookR b ((cs.set 0 V').set 1 W') :: rest) := by
  obtain ⟨iL, hiL, hL0, hL1, hL2⟩ := info_parts infoLTexts
  have hcb : w.cell? ⟨b, 0, none⟩ = some V := (hown.1 (bookR b cs) (by simp)).cell rfl 0 _ hcs
  have hfb : w.frozen? ⟨b, 0, none⟩ = false := (hown.1 (bookR b cs) (by simp)).frozen rfl 0
  obtain ⟨av, capv, hv⟩ := slice_form hown.head
  have hv2 : v = .slice av zs.length capv := hv
  clear hv
  subst hv2
  obtain ⟨aV, capV, hV⟩ := slice_form (hown.tail.head)
  have hV2 : V = .slice aV vs.length capV := hV
  clear hV
  subst hV2
  obtain ⟨aW, capW, hW⟩ := slice_form (hown.tail.tail.head)
  have hW2 : W = .slice aW us.length capW := hW
  clear hW
  subst hW2
  have ho1 : Own B w (⟨56, 1, .slice aV vs.length capV, vs.length, vs, none⟩ :: (rwTexts (.slice av zs.length capv, zs) :: outRTexts (.slice aW us.length capW) us :: bookR b cs :: rest)) := hown.perm (List.Perm.swap _ _ _)
  clear hown
  have HCS := Lib.hid hcs
  have HCW := Lib.hid hcw
  clear hcs hcw
  have hVl : (vs.length : Int) < 250 := by omega
  go_enter Tryz.func14, Tryz.ntmps14
  go_wp2_with (at_builtin; refine wpList_append_rows _ rfl _ _ 30 rfl B 56 iL _ 1 24 Tryz.underlying30 hiL hL0 hL1 hL2 rfl (by decide) _ vs.length _ _ rfl (ho1.below ((Below.refl _ _).alloc (Nat.le_refl _) _)) ⟨w.heap.size, 0, none⟩ 1 1 [Value.slice av zs.length capv] rfl rfl ?d1 ?d2 (by omega) ?d3 ?d4 ?d5 ?_)
  case d1 =>
    intro j u hj
    match j, hj with
    | 0, hj => simp at hj; subst hj; simp [Addr.add]
  case d2 => intro u hu; simp at hu; subst hu; rfl
  case d3 => unfold maxLen; omega
  case d4 => omega
  case d5 => simp; omega
  intro g cap w1 old ho2 hb1 hcap _
  have hb1' : Below B w w1 := ((Below.refl _ _).alloc hB _).trans hb1
  have ho3 : Own B w1 (bookR b cs :: (rwTexts (.slice av zs.length capv, zs) :: outRTexts (.slice (some ⟨g, 0, none⟩) (vs.length + 1) cap) (vs ++ [.slice av zs.length capv]) :: outRTexts (.slice aW us.length capW) us :: rest)) := by
    have h : Own B w1 (⟨56, 1, .slice (some ⟨g, 0, none⟩) (vs.length + 1) cap, vs.length + 1, vs ++ [.slice av zs.length capv], none⟩ :: (rwTexts (.slice av zs.length capv, zs) :: outRTexts (.slice aW us.length capW) us :: bookR b cs :: rest)) := ho2.sub (List.Sublist.cons_cons _ (List.sublist_append_right _ _))
    have hr : (⟨56, 1, .slice (some ⟨g, 0, none⟩) (vs.length + 1) cap, vs.length + 1, vs ++ [.slice av zs.length capv], none⟩ : Rw) = outRTexts (.slice (some ⟨g, 0, none⟩) (vs.length + 1) cap) (vs ++ [.slice av zs.length capv]) := by simp [outRTexts]
    rw [hr] at h
    refine h.perm ?_
    refine (List.Perm.swap _ _ _).trans ?_
    exact (List.perm_middle (l₁ := [_, _, _]) (l₂ := rest)) 
  have hcb1 : w1.cell? ⟨b, 0, none⟩ = some (.slice aV vs.length capV) := ho3.head.cell rfl 0 _ HCS.out
  have hfb1 : w1.frozen? ⟨b, 0, none⟩ = false := ho3.head.frozen rfl 0
  have ho4 := Lib.hid (Own.store (e := 45) (size := 28) (n := 1) (cap := 1) (g := b) ho3 0 (.slice (some ⟨g, 0, none⟩) (vs.length + 1) cap))
  clear ho2 ho1 ho3
  have hBb : B ≤ b := (ho4.out.head.lt b rfl).1
  have hb2 : Below B w (w1.setCell ⟨b, 0, none⟩ (.slice (some ⟨g, 0, none⟩) (vs.length + 1) cap)) := hb1'.setCell (p := ⟨b, 0, none⟩) hBb _
  go_wp2
  generalize w1.setCell ⟨b, 0, none⟩ (.slice (some ⟨g, 0, none⟩) (vs.length + 1) cap) = w2 at ho4 hb2 ⊢
  clear hb1 hb1' hcb1 hfb1
  have hset : ∀ V', (cs.set 0 V')[1]? = some (.slice aW us.length capW) := fun V' => by rw [List.getElem?_set_ne (by decide)]; exact HCW.out
  have HSET := Lib.hid (hset (.slice (some ⟨g, 0, none⟩) (vs.length + 1) cap))
  clear hset
  have ho5 : Own B w2 (bookR b (cs.set 0 (.slice (some ⟨g, 0, none⟩) (vs.length + 1) cap)) :: (rwTexts (.slice av zs.length capv, zs) :: outRTexts (.slice (some ⟨g, 0, none⟩) (vs.length + 1) cap) (vs ++ [.slice av zs.length capv]) :: outRTexts (.slice aW us.length capW) us :: rest)) := ho4.out
  clear ho4
  obtain ⟨cs2, hcs2⟩ : ∃ cs2, cs2 = cs.set 0 (.slice (some ⟨g, 0, none⟩) (vs.length + 1) cap) := ⟨_, rfl⟩
  rw [← hcs2] at ho5 HSET
  have HCS2 := Lib.hid hcs2
  clear hcs2
  have hcw2 : w2.cell? ⟨b, 1, none⟩ = some (.slice aW us.length capW) := ho5.head.cell rfl 1 _ HSET.out
  have hrd := Lib.hid (ho5.tail.head.rd)
  have hB2 : B ≤ w2.heap.size := Nat.le_trans hB hb2.size
  have hblt : b < w2.heap.size := block_lt' hcw2
  have HO5 := Lib.hid ho5
  clear ho5
  go_region_law (first | (go_simp; go_at_call 51; refine (copyTexts_rd _ zs _ (hrd.out.below (drew_below' _ 1)) hz).mono ?_; rintro e w3 ⟨v', rfl, hrow, hb3⟩; have ho6 := Own.new (HO5.out.below (drew_below' _ 1)) hb3 hrow hB2; obtain ⟨av2, capv2, hv3⟩ := slice_form ho6.head; change v' = .slice av2 zs.length capv2 at hv3; subst hv3; have hcw3 : w3.cell? ⟨b, 1, none⟩ = some (.slice aW us.length capW) := ho6.tail.head.cell rfl 1 _ HSET.out; have hcw3a : ∀ o, (w3.alloc o).cell? ⟨b, 1, none⟩ = some (.slice aW us.length capW) := fun o => (((Below.refl w3.heap.size w3).alloc (Nat.le_refl _) o).cell (p := ⟨b, 1, none⟩) (block_lt' hcw3)).trans hcw3; have ho7 : Own B w3 (⟨56, 1, .slice aW us.length capW, us.length, us, none⟩ :: (rwTexts (.slice av2 zs.length capv2, zs) :: bookR b cs2 :: rwTexts (.slice av zs.length capv, zs) :: outRTexts (.slice (some ⟨g, 0, none⟩) (vs.length + 1) cap) (vs ++ [.slice av zs.length capv]) :: rest)) := ho6.perm (List.perm_middle (l₁ := [_, _, _, _]) (l₂ := rest)); have HO7 := Lib.hid ho7; clear ho6 ho7 hrow; go_wp2_with (fail)) | (refine step_append_rows _ rfl (.tmp 24) (.tmp 27) 30 rfl B 56 iL _ 1 24 Tryz.underlying30 hiL hL0 hL1 hL2 rfl (by decide) _ us.length _ _ (by simp [Act.eval]) (HO7.out.below ((Below.refl _ _).alloc (Nat.le_refl _) _)) ⟨w3.heap.size, 0, none⟩ 1 1 [Value.slice av2 zs.length capv2] (by simp [Act.eval]) rfl (by intro j u hj; match j, hj with | 0, hj => simp at hj; subst hj; simp [Addr.add]) (by intro u hu; simp at hu; subst hu; rfl) (by omega) (by unfold maxLen; omega) (by omega) (by have := hb3.size; simp at this ⊢; omega) ?_; intro g2 cap2 w4 old2 ho8 hb4 hcap2 hold2; have ho9 : Own B w4 (bookR b cs2 :: (rwTexts (.slice av2 zs.length capv2, zs) :: rwTexts (.slice av zs.length capv, zs) :: outRTexts (.slice (some ⟨g, 0, none⟩) (vs.length + 1) cap) (vs ++ [.slice av zs.length capv]) :: outRTexts (.slice (some ⟨g2, 0, none⟩) (us.length + 1) cap2) (us ++ [.slice av2 zs.length capv2]) :: rest)) := bookAddTexts ho8; have hcw4 : w4.cell? ⟨b, 1, none⟩ = some (.slice aW us.length capW) := ho9.head.cell rfl 1 _ HSET.out; have hfz4 : w4.frozen? ⟨b, 1, none⟩ = false := ho9.head.frozen rfl 1; have HO9 := Lib.hid ho9; clear ho8 ho9 hold2))
  all_goals go_wp2
  all_goals go_end0
  all_goals
    have hBb4 : B ≤ b := (HO9.out.head.lt b rfl).1
    have hb3' : Below B w w3 := (hb2.drew).trans (hb3.mono hB2)
    have hb4' : Below B w w4 := (hb3'.alloc (Nat.le_trans hB hb3'.size) _).trans hb4
    refine ⟨rfl, hb4'.setCell (p := ⟨b, 1, none⟩) hBb4 _, .slice (some ⟨g, 0, none⟩) (vs.length + 1) cap, .slice (some ⟨g2, 0, none⟩) (us.length + 1) cap2, .slice av2 zs.length capv2, ?_⟩
    rw [← HCS2.out]
    have ho10 := Own.store (e := 45) (size := 28) (n := 1) (cap := 1) (g := b) HO9.out 1 (.slice (some ⟨g2, 0, none⟩) (us.length + 1) cap2)
    exact ho10.perm (List.perm_middle (l₁ := [_, _, _, _]) (l₂ := rest)).symm
end Go.Proofs.YtfndlfnlepndmaaGreat
