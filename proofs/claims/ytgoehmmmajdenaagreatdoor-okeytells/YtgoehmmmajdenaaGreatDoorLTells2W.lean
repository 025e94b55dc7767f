/- The walk of OkeyTells: every parts as bytes, every bytes as parts, as the document's own answer; lists kept, marked, grown. -/
import Derived.Test.YtgoehmmmajdenaaGreatDoorBaParts
import Derived.Test.YtgoehmmmajdenaaGreatDoorT3
import Derived.Test.YtgoehmmmajdenaaGreatDoorQ5
import Derived.Test.YtgoehmmmajdenaaGreatDoorQ3
import Derived.Test.YtgoehmmmajdenaaGreatDoorQ6
import Derived.Test.YtgoehmmmajdenaaGreatDoorQ10
import Derived.Test.YtgoehmmmajdenaaGreatDoorQ2
import Derived.Test.YtgoehmmmajdenaaGreatDoorK8
import Derived.Test.YtgoehmmmajdenaaGreatDoorK10
namespace Go.Proofs.YtgoehmmmajdenaaGreatDoor
open Go.RowKit

def conv (p : Prt) : ElParts := ⟨p.kind, ⟨p.s.toArray⟩, p.n, p.i⟩
theorem conv_cells (ps : List Prt) : cellsParts (ps.map conv) = partsCells ps := by
  unfold cellsParts partsCells
  rw [List.map_map]
  rfl
theorem rwParts_conv (v : Value) (ps : List Prt) : rwParts (v, ps.map conv) = ⟨66, 4, v, ps.length, partsCells ps⟩ := by
  unfold rwParts
  simp only [conv_cells, List.length_map]
/-- A row of parts, of the program's or of the document's own type, as one that is read. -/
theorem rowP_own {B : Nat} {w : World} {t : TypeId} {v : Value} {ps : List Prt} (h : Rw.ok B w ⟨t, 4, v, ps.length, partsCells ps⟩) : ∃ a cap, v = .slice a ps.length cap ∧ IsRowP w a ps := by
  rcases h.slice with ⟨hv, hn, -⟩ | ⟨g, cap, hv, hg, -⟩
  · have hn' : ps.length = 0 := hn
    exact ⟨none, 0, by rw [hn']; exact hv, .inl (List.eq_nil_of_length_eq_zero hn')⟩
  · refine ⟨some ⟨g, 0, none⟩, cap, hv, .inr ⟨g, 0, rfl, ?_⟩⟩
    intro i hi j u hu
    rw [Nat.zero_add]
    refine h.cell hg (i * 4 + j) u ?_
    show (partsCells ps)[i * 4 + j]? = some u
    rw [← conv_cells]
    refine cellsParts_at (ps.map conv) i (by simpa using hi) j u ?_
    simp only [List.getElem_map]
    exact hu
theorem rowP_ok {B : Nat} {w : World} {t : TypeId} {a : Option Addr} {cap : Nat} {ps : List Prt} (h : Rw.ok B w ⟨t, 4, .slice a ps.length cap, ps.length, partsCells ps⟩) : IsRowP w a ps := by
  obtain ⟨a', cap', he, hr⟩ := rowP_own h
  simp only [Value.slice.injEq] at he
  rw [he.1]
  exact hr
theorem rowP_below {w w' : World} {a : Option Addr} {ps : List Prt} (h : IsRowP w a ps) (hb : Below w.heap.size w w') : IsRowP w' a ps := by
  rcases h with rfl | ⟨b, off, rfl, hc⟩
  · exact .inl rfl
  · exact .inr ⟨b, off, rfl, fun i hi j u hu => (hb.cell (p := ⟨b, off + i * 4 + j, none⟩) (block_lt' (hc i hi j u hu))).trans (hc i hi j u hu)⟩
theorem rowI_below {w w' : World} {a : Option Addr} {ks : List Int} (h : IsRowI w a ks) (hb : Below w.heap.size w w') : IsRowI w' a ks := by
  rcases h with rfl | ⟨b, off, rfl, hc⟩
  · exact .inl rfl
  · exact .inr ⟨b, off, rfl, fun i hi => (hb.cell (p := ⟨b, off + i, none⟩) (block_lt' (hc i hi))).trans (hc i hi)⟩
theorem book_new (B : Nat) (w : World) (hB : B ≤ w.heap.size) : Own B (w.alloc (.cells #[.slice none 0 0, .slice none 0 0, .slice none 0 0, .slice none 0 0, .slice none 0 0, .slice none 0 0, .slice none 0 0, .slice none 0 0, .slice none 0 0, .slice none 0 0, .slice none 0 0, .slice none 0 0, .slice none 0 0, .slice none 0 0, .slice none 0 0, .slice none 0 0, .slice none 0 0, .slice none 0 0, .slice none 0 0, .slice none 0 0, .slice none 0 0, .slice none 0 0, .slice none 0 0, .slice none 0 0, .slice none 0 0, .slice none 0 0, .slice none 0 0, .slice none 0 0] 43)) [bookR w.heap.size (csOf (.slice none 0 0) (.slice none 0 0)), outRParts (.slice none 0 0) [], outRParts (.slice none 0 0) []] := by
  have h0 : Own B w [] := Own.nil B w
  have h1 := (h0.addNil 22 1).addNil 22 1
  refine h1.new (r := bookR w.heap.size (csOf (.slice none 0 0) (.slice none 0 0))) ((Below.refl _ _).alloc (Nat.le_refl _) _) ?_ hB
  refine ⟨rfl, .inr ⟨w.heap.size, 1, #[.slice none 0 0, .slice none 0 0, .slice none 0 0, .slice none 0 0, .slice none 0 0, .slice none 0 0, .slice none 0 0, .slice none 0 0, .slice none 0 0, .slice none 0 0, .slice none 0 0, .slice none 0 0, .slice none 0 0, .slice none 0 0, .slice none 0 0, .slice none 0 0, .slice none 0 0, .slice none 0 0, .slice none 0 0, .slice none 0 0, .slice none 0 0, .slice none 0 0, .slice none 0 0, .slice none 0 0, .slice none 0 0, .slice none 0 0, .slice none 0 0, .slice none 0 0], rfl, Nat.le_refl _, ?_, Nat.le_refl _, by unfold maxLen; omega, rfl, rfl⟩⟩
  simp [World.alloc, -World.alloc_eq, bookR]
/-- The row of a list that was lent. -/
def lentR (g cap : Nat) (ks : List Int) : Rw := ⟨3, 1, .slice (some ⟨g, 0, none⟩) (ks.length + 1) cap, ks.length + 1, cellsI ks ++ [.int .i64 (-77)]⟩
theorem lentR_row {B : Nat} {w : World} {g cap : Nat} {ks : List Int} (h : (lentR g cap ks).ok B w) : IsRowI w (some ⟨g, 0, none⟩) ks := by
  refine .inr ⟨g, 0, rfl, fun i hi => ?_⟩
  rw [Nat.zero_add]
  exact h.cell rfl i _ (cellsI_get ks i hi)
theorem perm_tells (r4 r3 L bk oV oW : Rw) (R S : List Rw) : (r4 :: r3 :: L :: (R ++ (S ++ [bk, oV, oW]))).Perm (r3 :: oV :: oW :: bk :: (r4 :: L :: (R ++ S))) := by
  have h1 : (R ++ (S ++ [bk, oV, oW])).Perm ([bk, oV, oW] ++ (R ++ S)) := by rw [← List.append_assoc]; exact List.perm_append_comm
  have h2 : (r4 :: r3 :: L :: (R ++ (S ++ [bk, oV, oW]))).Perm ([r4, r3, L, bk, oV, oW] ++ (R ++ S)) := List.Perm.cons _ (List.Perm.cons _ (List.Perm.cons _ h1))
  have p : List.Perm [0, 1, 2, 3, 4, 5] [1, 4, 5, 3, 0, 2] := by decide
  have p2 : List.Perm [r4, r3, L, bk, oV, oW] [r3, oV, oW, bk, r4, L] := p.map (fun i => [r4, r3, L, bk, oV, oW].getD i r4)
  exact h2.trans (p2.append_right (R ++ S))
theorem perm_back (c r3 oV oW bk r4 L : Rw) (R S : List Rw) : (c :: r3 :: oV :: oW :: bk :: (r4 :: L :: (R ++ S))).Perm ([r4, L] ++ ((R ++ [r3]) ++ ((S ++ [c]) ++ [bk, oV, oW]))) := by
  have h1 : ([r4, L] ++ ((R ++ [r3]) ++ ((S ++ [c]) ++ [bk, oV, oW]))).Perm ([r4, L, r3, c, bk, oV, oW] ++ (R ++ S)) := by
    have e1 : ((R ++ [r3]) ++ ((S ++ [c]) ++ [bk, oV, oW])).Perm ([r3, c, bk, oV, oW] ++ (R ++ S)) := by
      have a1 : (S ++ [c] ++ [bk, oV, oW]).Perm ([c, bk, oV, oW] ++ S) := by rw [List.append_assoc]; exact List.perm_append_comm
      have a2 : (R ++ [r3]).Perm ([r3] ++ R) := List.perm_append_comm
      have a3 := a2.append a1
      refine a3.trans ?_
      have a4 : (R ++ ([c, bk, oV, oW] ++ S)).Perm ([c, bk, oV, oW] ++ (R ++ S)) := by
        rw [← List.append_assoc, ← List.append_assoc]
        exact List.Perm.append_right S List.perm_append_comm
      exact List.Perm.cons r3 a4
    exact List.Perm.cons _ (List.Perm.cons _ e1)
  refine List.Perm.trans ?_ h1.symm
  have p : List.Perm [0, 1, 2, 3, 4, 5, 6] [5, 6, 1, 0, 4, 2, 3] := by decide
  have p2 : List.Perm [c, r3, oV, oW, bk, r4, L] [r4, L, r3, c, bk, oV, oW] := p.map (fun i => [c, r3, oV, oW, bk, r4, L].getD i c)
  exact p2.append_right (R ++ S)
/-- What is kept ahead of a round. -/
def Kept (B b : Nat) (zs : List ElParts) (k : Nat) (w : World) : Prop :=
  ∃ (V W : Value) (rows was : List (Value × List ElParts)), rows.length = k ∧ was.length = k ∧ (∀ r ∈ rows, r.2 = zs) ∧ (∀ r ∈ was, r.2 = zs) ∧
    Own B w (rows.map rwParts ++ (was.map rwParts ++ (bookR b (csOf V W) :: outRParts V (rows.map (·.1)) :: outRParts W (was.map (·.1)) :: [])))
theorem putVal_form (ps : List Prt) : ∃ (X : ByteArray) (e : Int), putVal ps = .tuple #[.string X, .int .i64 e] := by
  unfold putVal
  split
  · exact ⟨_, _, rfl⟩
  · exact ⟨_, _, rfl⟩
theorem nextVal_form (l : List UInt8) : ∃ (X : ByteArray) (t : Bool), nextVal l = .tuple #[.string X, .bool t] := by
  unfold nextVal
  split
  · exact ⟨_, _, rfl⟩
  · exact ⟨_, _, rfl⟩
theorem rdAll_len : ∀ (ks : List Int) (l : List UInt8), (rdAll l ks).1.length ≤ ks.length
  | [], l => by simp [rdAll]
  | k :: ks, l => by
    have ih := rdAll_len ks (rdPart l k).2.1
    rw [rdAll]
    split
    · simp
    · split
      · simp
      · simp only [List.length_cons]; omega
theorem rdGet_len (l : List UInt8) (ks : List Int) : (rdGet l ks).1.length ≤ ks.length := by
  unfold rdGet
  split
  · exact rdAll_len ks l
  · simp

set_option maxHeartbeats 2000000 in
set_option maxRecDepth 100000 in
theorem tells_easy (a : Option Addr) (cap : Nat) (ps : List Prt) (b : ByteArray) (hb : b.size ≤ maxLen) (a2 : Option Addr) (len2 cap2 : Nat) (s : ByteArray) (hs : s.size ≤ maxLen) (n i : Int) (w : World) (hm : Max w)
    (hwide : ∀ p ∈ ps, p.Wide) (hlm : ps.length ≤ maxLen) (hr : IsRowP w a ps) (h2 : len2 ≤ maxLen) (h : 3000 < b.size ∨ 60 < len2 ∨ 3000 < s.size) :
    Calls Tryz.prog 3 #[.slice a ps.length cap, .string b, .slice a2 len2 cap2, .string s, .int .u64 n, .int .i64 i] w fun e w' => e = .returned (.bool true) ∧ Below w.heap.size w w' := by
  have hsm := Lib.hid (small_any a cap ps w hwide hlm hr)
  have hlm2 := hlm
  unfold maxLen at hb hs h2 hlm2
  clear hwide hlm hr
  by_cases h1 : 3000 < b.size
  · clear h
    go_enter Tryz.func3, Tryz.ntmps3
    go_wp2_with (first | (go_at_call 4; refine hsm.out.mono ?_; rintro e w1 ⟨⟨t, rfl, -⟩, hb1⟩; cases t) | (go_at_call 5; refine (alive_any _ (hm.next hb1)).mono ?_; rintro e w2 ⟨rfl, hb2⟩) | fail)
    all_goals go_ret
    all_goals exact ⟨rfl, hb1.trans (hb2.mono hb1.size)⟩
  · have hd1 : decide (3000 < b.size) = false := by simpa using h1
    by_cases h3 : 60 < len2
    · clear h
      go_enter Tryz.func3, Tryz.ntmps3
      go_wp2_with (first | (go_at_call 4; refine hsm.out.mono ?_; rintro e w1 ⟨⟨t, rfl, -⟩, hb1⟩; cases t) | (go_at_call 5; refine (alive_any _ (hm.next hb1)).mono ?_; rintro e w2 ⟨rfl, hb2⟩) | fail)
      all_goals go_ret
      all_goals exact ⟨rfl, hb1.trans (hb2.mono hb1.size)⟩
    · have hd2 : decide (60 < len2) = false := by simpa using h3
      have h4 : 3000 < s.size := by omega
      clear h
      go_enter Tryz.func3, Tryz.ntmps3
      go_wp2_with (first | (go_at_call 4; refine hsm.out.mono ?_; rintro e w1 ⟨⟨t, rfl, -⟩, hb1⟩; cases t) | (go_at_call 5; refine (alive_any _ (hm.next hb1)).mono ?_; rintro e w2 ⟨rfl, hb2⟩) | fail)
      all_goals go_ret
      all_goals exact ⟨rfl, hb1.trans (hb2.mono hb1.size)⟩

set_option maxHeartbeats 8000000 in
set_option maxRecDepth 100000 in
theorem tells_hard (B : Nat) (a : Option Addr) (cap : Nat) (ps : List Prt) (b : ByteArray) (a2 : Option Addr) (cap2 : Nat) (ks : List Int) (s : ByteArray) (n : Nat) (hn : n < 18446744073709551616) (i : Int) (hi0 : -9223372036854775808 ≤ i) (hi1 : i ≤ 9223372036854775807) (w : World) (hBe : w.heap.size = B) (hm : Max w)
    (hwide : ∀ p ∈ ps, p.Wide) (hlm : ps.length ≤ maxLen) (hr : IsRowP w a ps) (hks : IsIs w a2 ks.length ks) (hnil : a2 = none → cap2 = 0) (hb : b.size ≤ 3000) (hk : ks.length ≤ 60) (hs : s.size ≤ 3000) :
    Calls Tryz.prog 3 #[.slice a ps.length cap, .string b, .slice a2 ks.length cap2, .string s, .int .u64 n, .int .i64 i] w fun e w' => e = .returned (.bool true) ∧ Below B w w' := by
  have hsm := Lib.hid (small_any a cap ps w hwide hlm hr)
  rw [hBe] at hsm
  have HBE := Lib.hid hBe
  have hd1 : decide (3000 < b.size) = false := by simp; omega
  have hd2 : decide (60 < ks.length) = false := by simp; omega
  have hd3 : decide (3000 < s.size) = false := by simp; omega
  have HW := Lib.hid hwide
  have HMX : Hid (∀ w' : World, Below B w w' → Max w') := fun w' hb' => hm.below hb' (by rw [← hBe]; exact hm.lt)
  have HRP : Hid (∀ w' : World, Below B w w' → IsRowP w' a ps) := fun w' hb' => rowP_below hr (hBe ▸ hb')
  have HRI : Hid (∀ w' : World, Below B w w' → IsIs w' a2 ks.length ks) := fun w' hb' => ⟨hks.1, hks.2.1, hks.2.2.1, rowI_below hks.2.2.2 (hBe ▸ hb')⟩
  have hlm2 := hlm
  unfold maxLen at hlm2
  clear hBe hwide hlm hr hks
  go_enter Tryz.func3, Tryz.ntmps3
  go_wp2_with (go_at_call 4; refine hsm.out.mono ?_; rintro e w1 ⟨⟨t, rfl, ht⟩, hb1⟩; replace ht := Lib.hid ht; cases t)
  · clear ht
    go_wp2_with (go_at_call 5; refine (alive_any _ (HMX.out w1 hb1)).mono ?_; rintro e w2 ⟨rfl, hb2⟩)
    go_ret
    exact ⟨rfl, hb1.trans (hb2.mono (by rw [← HBE.out]; exact hb1.size))⟩
  · obtain ⟨ht1, ht2⟩ := ht.out (by trivial)
    have hfit : ∀ p ∈ ps, p.Fits := by
      intro p hp
      obtain ⟨f1, f2, f3, f4⟩ := HW.out p hp
      refine ⟨f1, f2, f3, ?_⟩
      have : p.s.length ≤ sizes ps := sizes_mem ps p hp
      omega
    have hB1 : B ≤ w1.heap.size := by rw [← HBE.out]; exact hb1.size
    have hbk := book_new B w1 hB1
    have hgl := rdGet_len b.data.toList ks
    have hge := Lib.hid (fun (w' : World) a' cap' hm' hr' => get_any b a' cap' ks w' (by omega) hm' (by omega) hr')
    have hrg := Lib.hid (fun (w' : World) hr' => refGet_any b a2 cap2 ks w' (by omega) (by omega) hr')
    unfold TellsGet at hge
    unfold TellsGetR at hrg
    obtain ⟨qs, lf, er, hgv⟩ : ∃ qs lf er, rdGet b.data.toList ks = (qs, lf, er) := ⟨_, _, _, rfl⟩
    rw [hgv] at hge hrg hgl
    simp only at hge hrg hgl
    generalize (⟨lf.toArray⟩ : ByteArray) = LF at hge hrg
    have hql : qs.length ≤ 60 := by omega
    obtain ⟨zs, hzs⟩ : ∃ zs, zs = qs.map conv := ⟨_, rfl⟩
    have hzl : zs.length ≤ 60 := by rw [hzs, List.length_map]; exact hql
    obtain ⟨X, ep, hpv⟩ := putVal_form ps
    have hpu := Lib.hid (fun (w' : World) hm' hr' => put_any a cap ps w' hm' (by omega) hfit hr')
    have hrp := Lib.hid (fun (w' : World) a' cap' hr' => refPut_any a' cap' ps w' (by omega) hfit hr')
    rw [hpv] at hpu hrp
    have hpl := Lib.hid (fun (w' : World) hr' => plain_any a cap ps w' (by omega) hr')
    have hle := Lib.hid (fun w' (hr' : IsIs w' a2 ks.length ks) => lentI_row a2 ks.length cap2 ks w' hr' hnil (by omega))
    have hst := Lib.hid (fun B' w' v' hl' hr' => staysI_any B' v' a2 ks.length cap2 ks w' hl' hr' (by omega))
    have hsame := Lib.hid (fun (w' : World) a' a'' c' c'' h' h'' => same_any a' a'' c' c'' qs w' (by omega) h' h'')
    clear ht1 ht2 hgv hpv hsm
    go_wp2
    go_loopw [14] (fun vi wr => ∃ k : Nat, k ≤ 2 ∧ vi = .int .i64 k ∧ Kept B w1.heap.size zs k wr ∧ Below B w wr) (fun vi _ => 2 - (intOf vi).toNat)
    case atStart => exact ⟨0, by omega, rfl, ⟨_, _, [], [], rfl, rfl, by simp, by simp, hbk⟩, hb1.alloc hB1 _⟩
    case round =>
      obtain ⟨k, hk0, rfl, hkept, hbel⟩ := hrel
      have hBr : B ≤ wr.heap.size := by rw [← HBE.out]; exact hbel.size
      obtain ⟨V, W, rows, was, hr1, hr2, hr3, hr4, ho⟩ := hkept
      by_cases hk2 : k < 2
      · go_wp2_with (first
          | (go_at_call 6; refine (hpu.out _ (HMX.out wr hbel) (HRP.out wr hbel)).mono ?_; rintro e w2 ⟨rfl, hb2⟩; have k2 : Below B w w2 := hbel.trans (hb2.mono hBr); have hB2 : B ≤ w2.heap.size := Nat.le_trans hBr hb2.size; have ho2 := ho.below hb2)
          | (go_at_call 8; refine (hpl.out _ (HRP.out w2 k2)).mono ?_; rintro e w3 ⟨v3, rfl, hrow3, hb3⟩; obtain ⟨a3, cap3, rfl, hrp3⟩ := rowP_own hrow3; have ho3 := ho2.below hb3; have hB3 : B ≤ w3.heap.size := Nat.le_trans hB2 hb3.size; have k3 : Below B w w3 := k2.trans (hb3.mono hB2))
          | (go_at_call 7; refine (hrp.out _ _ _ hrp3).mono ?_; rintro e w4 ⟨rfl, hb4⟩; have ho4 := ho3.below hb4; have hB4 : B ≤ w4.heap.size := Nat.le_trans hB3 hb4.size; have k4 : Below B w w4 := k3.trans (hb4.mono hB3))
          | (go_at_call 9; refine (hle.out _ (HRI.out w4 k4)).mono ?_; rintro e w5 ⟨⟨v5, rfl, g5, cap5, rfl, hlr⟩, hb5⟩; have ho5 : Own B w5 (lentR g5 cap5 ks :: _) := ho4.new hb5 hlr hB4; have hB5 : B ≤ w5.heap.size := Nat.le_trans hB4 hb5.size; have k5 : Below B w w5 := k4.trans (hb5.mono hB4); clear hlr)
          | (go_at_call 10; refine (hge.out _ _ _ (HMX.out w5 k5) (lentR_row ho5.head)).mono ?_; rintro e w6 ⟨v6, rfl, hrow6, hb6⟩; have ho6 := ho5.new (r := ⟨66, 4, v6, qs.length, partsCells qs⟩) hb6 hrow6 hB5; have hB6 : B ≤ w6.heap.size := Nat.le_trans hB5 hb6.size; have k6 : Below B w w6 := k5.trans (hb6.mono hB5); clear hrow6)
          | (go_at_call 11; refine (hrg.out _ (HRI.out w6 k6).2.2.2).mono ?_; rintro e w7 ⟨v7, rfl, hrow7, hb7⟩; have ho7 := ho6.new (r := ⟨76, 4, v7, qs.length, partsCells qs⟩) hb7 hrow7 hB6; have hB7 : B ≤ w7.heap.size := Nat.le_trans hB6 hb7.size; have k7 : Below B w w7 := k6.trans (hb7.mono hB6); clear hrow7)
          | fail)
        obtain ⟨a6, cap6, rfl, -⟩ := rowP_own (ho7.1 ⟨66, 4, v6, qs.length, partsCells qs⟩ (by simp))
        obtain ⟨a7, cap7, rfl, -⟩ := rowP_own (ho7.1 ⟨76, 4, v7, qs.length, partsCells qs⟩ (by simp))
        rw [← rwParts_conv, ← hzs] at ho7
        have hadd := Lib.hid (addParts_any B w1.heap.size (csOf V W) V W (.slice a6 qs.length cap6) (rows.map (·.1)) (was.map (·.1)) zs (⟨76, 4, .slice a7 qs.length cap7, qs.length, partsCells qs⟩ :: lentR g5 cap5 ks :: (rows.map rwParts ++ was.map rwParts)) w7 rfl rfl (ho7.perm (perm_tells _ _ _ _ _ _ _ _)) (by simp; omega) (by simp; omega) (by omega) hB7)
        clear ho2 ho3 ho4 ho5 ho6 ho7 ho
        go_wp2_with (go_at_call 12; refine hadd.out.mono ?_; rintro e w8 ⟨rfl, hb8, V', W', v', ho8⟩)
        have k8 : Below B w w8 := k7.trans hb8
        have hB8 : B ≤ w8.heap.size := Nat.le_trans hB7 hb8.size
        have hp6 : IsRowP w8 a6 qs := by
          have h6 := ho8.1 (rwParts (.slice a6 qs.length cap6, zs)) (by simp)
          rw [hzs, rwParts_conv] at h6
          exact rowP_ok h6
        have hp7 : IsRowP w8 a7 qs := rowP_ok (ho8.1 ⟨76, 4, .slice a7 qs.length cap7, qs.length, partsCells qs⟩ (by simp))
        have HO8 := Lib.hid ho8
        clear hadd ho8
        go_wp2_with (first
          | (go_at_call 13; refine (hsame.out _ _ _ _ _ hp6 hp7).mono ?_; rintro e w9 ⟨rfl, n9, rfl⟩; have ho9 := HO8.out.below (drew_below' w8 n9); have k9 : Below B w (w8.drewN n9) := k8.trans ((drew_below' w8 n9).mono hB8))
          | (go_at_call 14; refine (hst.out B _ _ ⟨g5, cap5, rfl, ho9.1 (lentR g5 cap5 ks) (by simp)⟩ (HRI.out _ k9)).mono ?_; rintro e w13 ⟨rfl, hb13⟩; have ho13 := ho9.below hb13; have k13 : Below B w w13 := k9.trans (hb13.mono hB8))
          | fail)
        have hkept : Kept B w1.heap.size zs (k + 1) w13 := by
          refine ⟨V', W', rows ++ [(.slice a6 qs.length cap6, zs)], was ++ [(v', zs)], by simp [hr1], by simp [hr2], ?_, ?_, ?_⟩
          · intro r hr
            rcases List.mem_append.1 hr with hr | hr
            · exact hr3 r hr
            · simp at hr; subst hr; rfl
          · intro r hr
            rcases List.mem_append.1 hr with hr | hr
            · exact hr4 r hr
            · simp at hr; subst hr; rfl
          · have h1 := ho13.perm (perm_back _ _ _ _ _ _ _ _ _)
            have h2 := h1.sub (List.sublist_append_right _ _)
            simp only [List.map_append, List.map_cons, List.map_nil]
            exact h2
        clear ho9 ho13
        go_wp2
        go_roundw
        case rel => exact ⟨k + 1, by omega, by go_num, hkept, k13⟩
        case measure => simp [intOf]; omega
      · have hke : k = 2 := by omega
        subst hke
        have hap := Lib.hid (fun (w' : World) (hb' : Below wr.heap.size wr w') => apartParts_any B w1.heap.size V W rows was [] w' (ho.below hb') (by
          apply List.ext_getElem
          · simp [hr1, hr2]
          · intro i h1 h2
            simp only [List.getElem_map]
            rw [hr3 _ (List.getElem_mem _), hr4 _ (List.getElem_mem _)]) (by omega) (fun r hr => by rw [hr3 r hr]; omega) (Nat.le_trans hBr hb'.size))
        obtain ⟨NX, nt, hnv⟩ := nextVal_form s.data.toList
        have hnx := Lib.hid (fun w' : World => next_any s w' (by omega))
        have hrnx := Lib.hid (fun w' : World => refNext_any s w' (by omega))
        rw [hnv] at hnx hrnx
        have htx := Lib.hid (fun (w' : World) hm' => text_any s w' (by omega) hm')
        have hke2 := Lib.hid (fun w' : World => refKey_any s w' (by omega))
        generalize (⟨(key s.data.toList).toArray⟩ : ByteArray) = KX at htx hke2
        have hnu := Lib.hid (fun w' : World => num_any n w' hn)
        have hrnu := Lib.hid (fun w' : World => refNum_any n w' hn)
        generalize (⟨(be n 8).toArray⟩ : ByteArray) = NB at hnu hrnu
        have hin := Lib.hid (fun w' : World => int_any i w' hi0 hi1)
        have hrin := Lib.hid (fun w' : World => refInt_any i w' hi0 hi1)
        generalize (⟨(be (turn i) 8).toArray⟩ : ByteArray) = IB at hin hrin
        have kk : Below wr.heap.size wr wr := Below.refl _ _
        clear ho hr3 hr4 hr1 hr2 hnv
        go_wp2_with (first
          | (go_at_call 15; refine (hnx.out _).mono ?_; rintro e w2 ⟨rfl, hb2⟩; replace kk := kk.trans (hb2.mono kk.size); clear hb2)
          | (go_at_call 16; refine (hrnx.out _).mono ?_; rintro e w3 ⟨rfl, hb3⟩; replace kk := kk.trans (hb3.mono kk.size); clear hb3)
          | (go_at_call 5; refine (alive_any _ (HMX.out _ (hbel.trans (kk.mono hBr)))).mono ?_; rintro e w4 ⟨rfl, hb4⟩; replace kk := kk.trans (hb4.mono kk.size); clear hb4)
          | (go_at_call 17; refine (htx.out _ (HMX.out _ (hbel.trans (kk.mono hBr)))).mono ?_; rintro e w5 ⟨rfl, hb5⟩; replace kk := kk.trans (hb5.mono kk.size); clear hb5)
          | (go_at_call 18; refine (hke2.out _).mono ?_; rintro e w6 ⟨rfl, hb6⟩; replace kk := kk.trans (hb6.mono kk.size); clear hb6)
          | (go_at_call 19; refine (hnu.out _).mono ?_; rintro e w7 ⟨rfl, hb7⟩; replace kk := kk.trans (hb7.mono kk.size); clear hb7)
          | (go_at_call 20; refine (hrnu.out _).mono ?_; rintro e w8 ⟨rfl, hb8⟩; replace kk := kk.trans (hb8.mono kk.size); clear hb8)
          | (go_at_call 21; refine (hin.out _).mono ?_; rintro e w9 ⟨rfl, hb9⟩; replace kk := kk.trans (hb9.mono kk.size); clear hb9)
          | (go_at_call 22; refine (hrin.out _).mono ?_; rintro e w10 ⟨rfl, hb10⟩; replace kk := kk.trans (hb10.mono kk.size); clear hb10)
          | (go_at_call 23; refine (hap.out _ kk).mono ?_; rintro e w11 ⟨rfl, hb11⟩)
          | fail)
        go_ret
        exact ⟨rfl, (hbel.trans (kk.mono hBr)).trans hb11⟩
def IsPs (w : World) (a : Option Addr) (len : Nat) (ps : List Prt) : Prop := len ≤ maxLen ∧ ps.length = len ∧ (∀ p ∈ ps, p.Wide) ∧ IsRowP w a ps
theorem okeyTells_walk (a : Option Addr) (len cap : Nat) (ps : List Prt) (b : ByteArray) (hb : b.size ≤ maxLen) (a2 : Option Addr) (len2 cap2 : Nat) (ks : List Int) (s : ByteArray) (hs : s.size ≤ maxLen) (n : Nat) (hn : n < 18446744073709551616) (i : Int) (hi0 : -9223372036854775808 ≤ i) (hi1 : i ≤ 9223372036854775807) (w : World)
    (h : IsPs w a len ps) (h2 : IsIs w a2 len2 ks) (hnil : a2 = none → cap2 = 0) (hm : Max w) :
    Calls Tryz.prog 3 #[.slice a len cap, .string b, .slice a2 len2 cap2, .string s, .int .u64 n, .int .i64 i] w fun e w' => e = .returned (.bool true) ∧ Below w.heap.size w w' := by
  obtain ⟨g1, rfl, g3, g4⟩ := h
  have hl2 := h2.2.1
  subst hl2
  by_cases he : 3000 < b.size ∨ 60 < ks.length ∨ 3000 < s.size
  · exact tells_easy a cap ps b hb a2 ks.length cap2 s hs n i w hm g3 g1 g4 h2.1 he
  · exact tells_hard w.heap.size a cap ps b a2 cap2 ks s n hn i hi0 hi1 w rfl hm g3 g1 g4 h2 hnil (by omega) (by omega) (by omega)
end Go.Proofs.YtgoehmmmajdenaaGreatDoor
