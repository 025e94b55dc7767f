/- The walk of SumTells: every sum, frame and seal as the document's own answer; lists kept, marked, grown. -/
import Derived.Test.YtgoehmmmajdenaaGreatD2
import Derived.Test.YtgoehmmmajdenaaGreatT2
import Derived.Test.YtgoehmmmajdenaaGreatBaTexts
namespace Go.Proofs.YtgoehmmmajdenaaGreat
open Go.RowKit

theorem book_new (B : Nat) (w : World) (hB : B ≤ w.heap.size) : Own B (w.alloc (.cells #[.slice none 0 0, .slice none 0 0, .slice none 0 0, .slice none 0 0, .slice none 0 0, .slice none 0 0, .slice none 0 0, .slice none 0 0, .slice none 0 0, .slice none 0 0, .slice none 0 0, .slice none 0 0, .slice none 0 0, .slice none 0 0, .slice none 0 0, .slice none 0 0, .slice none 0 0, .slice none 0 0, .slice none 0 0, .slice none 0 0, .slice none 0 0, .slice none 0 0, .slice none 0 0, .slice none 0 0, .slice none 0 0, .slice none 0 0, .slice none 0 0, .slice none 0 0] 41)) [bookR w.heap.size (csOf (.slice none 0 0) (.slice none 0 0)), outRTexts (.slice none 0 0) [], outRTexts (.slice none 0 0) []] := by
  have h0 : Own B w [] := Own.nil B w
  have h1 := (h0.addNil 22 1).addNil 22 1
  refine h1.new (r := bookR w.heap.size (csOf (.slice none 0 0) (.slice none 0 0))) ((Below.refl _ _).alloc (Nat.le_refl _) _) ?_ hB
  refine ⟨rfl, .inr ⟨w.heap.size, 1, #[.slice none 0 0, .slice none 0 0, .slice none 0 0, .slice none 0 0, .slice none 0 0, .slice none 0 0, .slice none 0 0, .slice none 0 0, .slice none 0 0, .slice none 0 0, .slice none 0 0, .slice none 0 0, .slice none 0 0, .slice none 0 0, .slice none 0 0, .slice none 0 0, .slice none 0 0, .slice none 0 0, .slice none 0 0, .slice none 0 0, .slice none 0 0, .slice none 0 0, .slice none 0 0, .slice none 0 0, .slice none 0 0, .slice none 0 0, .slice none 0 0, .slice none 0 0], rfl, Nat.le_refl _, ?_, Nat.le_refl _, by unfold maxLen; omega, rfl, rfl⟩⟩
  simp [World.alloc, -World.alloc_eq, bookR]
theorem rowT_rw (v : Value) (ts : List (List UInt8)) : rowT v ts = rwTexts (v, ts.map fun t => ⟨t.toArray⟩) := by
  simp [rowT, rwTexts, cellsTexts]
theorem rowS_at {B : Nat} {w w' : World} {a : Option Addr} {len : Nat} {ss : List ByteArray} (h : IsRowS w a len ss) (hB : w.heap.size = B) (hb : Below B w w') : IsRowS w' a len ss := rowS_below h (hB ▸ hb)
theorem crc_any (a : Option Addr) (len cap : Nat) (ss : List ByteArray) (w : World) (h : IsRowS w a len ss) (hn : ss.length ≤ 1000000) :
    Calls Tryz.prog 12 #[.slice a len cap] w fun e w' => e = .returned (.int .u32 (crc (cat ss) : Nat)) ∧ w = w' := by
  obtain ⟨rfl, hs, hrow⟩ := h
  rcases hrow with h0 | ⟨b, off, rfl, hb, hc⟩
  · obtain rfl := List.eq_nil_of_length_eq_zero h0
    exact crc_none a cap w
  · exact crc_rows b off cap ss w hn hs hc
/-- The row of a list that was lent. -/
def lentR (g cap : Nat) (ss : List ByteArray) : Rw := ⟨9, 1, .slice (some ⟨g, 0, none⟩) (ss.length + 1) cap, ss.length + 1, cellsS ss ++ [.string ⟨#[109, 97, 114, 107]⟩]⟩
theorem lentR_row {B : Nat} {w : World} {g cap : Nat} {ss : List ByteArray} (h : (lentR g cap ss).ok B w) (hs : ∀ s ∈ ss, s.size ≤ maxLen) : IsRowS w (some ⟨g, 0, none⟩) ss.length ss := by
  refine ⟨rfl, hs, .inr ⟨g, 0, rfl, (h.lt g rfl).2, fun i hi => ?_⟩⟩
  rw [Nat.zero_add]
  exact h.cell rfl i _ (cellsS_get ss i hi)
theorem openV_form (l : List UInt8) : ∃ (X : ByteArray) (e : Int), openV l = .tuple #[.string X, .int .i64 e] := by
  unfold openV
  split
  · exact ⟨_, _, rfl⟩
  · split
    · exact ⟨_, _, rfl⟩
    · exact ⟨_, _, rfl⟩

set_option maxHeartbeats 2000000 in
set_option maxRecDepth 100000 in
theorem tells_long (a : Option Addr) (len cap : Nat) (ss : List ByteArray) (s : ByteArray) (hs : s.size ≤ maxLen) (w : World) (h : IsRowS w a len ss) (hl : 6000 < s.size) :
    Calls Tryz.prog 3 #[.slice a len cap, .string s] w fun e w' => e = .returned (.bool true) ∧ Below w.heap.size w w' := by
  unfold maxLen at hs
  have hsh := Lib.hid (short_any 60 6000 a len cap ss w (by omega) (by omega) (by omega) (by omega) h)
  go_enter Tryz.func3, Tryz.ntmps3
  go_wp2_with (first | (go_at_call 4; refine hsh.out.mono ?_; rintro e w1 ⟨⟨t, rfl, -⟩, hb1⟩; cases t) | (go_at_call 5; refine (alive_any _).mono ?_; rintro e w2 ⟨rfl, hb2⟩) | fail)
  all_goals go_ret
  all_goals exact ⟨rfl, hb1.trans (hb2.mono hb1.size)⟩

theorem perm_tells (r4 r3 L bk oV oW : Rw) (R S : List Rw) : (r4 :: r3 :: L :: (R ++ (S ++ [bk, oV, oW]))).Perm (r3 :: oV :: oW :: bk :: (r4 :: L :: (R ++ S))) := by
  have h1 : (R ++ (S ++ [bk, oV, oW])).Perm ([bk, oV, oW] ++ (R ++ S)) := by rw [← List.append_assoc]; exact List.perm_append_comm
  have h2 : (r4 :: r3 :: L :: (R ++ (S ++ [bk, oV, oW]))).Perm ([r4, r3, L, bk, oV, oW] ++ (R ++ S)) := List.Perm.cons _ (List.Perm.cons _ (List.Perm.cons _ h1))
  have p : List.Perm [0, 1, 2, 3, 4, 5] [1, 4, 5, 3, 0, 2] := by decide
  have p2 : List.Perm [r4, r3, L, bk, oV, oW] [r3, oV, oW, bk, r4, L] := p.map (fun i => [r4, r3, L, bk, oV, oW].getD i r4)
  exact h2.trans (p2.append_right (R ++ S))
theorem perm_back (c r3 oV oW bk r4 L : Rw) (R S : List Rw) : (c :: r3 :: oV :: oW :: bk :: (r4 :: L :: (R ++ S))).Perm ([r4, L] ++ ((R ++ [r3]) ++ ((S ++ [c]) ++ [bk, oV, oW]))) := by
  have h1 : ([r4, L] ++ ((R ++ [r3]) ++ ((S ++ [c]) ++ [bk, oV, oW]))).Perm ([r4, L, r3, c, bk, oV, oW] ++ (R ++ S)) := by
    have e1 : ((R ++ [r3]) ++ ((S ++ [c]) ++ [bk, oV, oW])).Perm ([r3, c, bk, oV, oW] ++ (R ++ S)) := by
      have a1 : (S ++ [c] ++ [bk, oV, oW]).Perm ([c, bk, oV, oW] ++ S) := by rw [List.append_assoc]; exact List.perm_append_comm
      have a2 : (R ++ [r3]).Perm ([r3] ++ R) := List.perm_append_comm
      have a3 := a2.append a1
      refine a3.trans ?_
      have a4 : (R ++ ([c, bk, oV, oW] ++ S)).Perm ([c, bk, oV, oW] ++ (R ++ S)) := by
        rw [← List.append_assoc, ← List.append_assoc]
        exact List.Perm.append_right S List.perm_append_comm
      exact List.Perm.cons r3 a4
    exact List.Perm.cons _ (List.Perm.cons _ e1)
  refine List.Perm.trans ?_ h1.symm
  have p : List.Perm [0, 1, 2, 3, 4, 5, 6] [5, 6, 1, 0, 4, 2, 3] := by decide
  have p2 : List.Perm [c, r3, oV, oW, bk, r4, L] [r4, L, r3, c, bk, oV, oW] := p.map (fun i => [c, r3, oV, oW, bk, r4, L].getD i c)
  exact p2.append_right (R ++ S)
/-- What is kept ahead of a round. -/
def Kept (B b : Nat) (zs : List ByteArray) (k : Nat) (w : World) : Prop :=
  ∃ (V W : Value) (rows was : List (Value × List ByteArray)), rows.length = k ∧ was.length = k ∧ (∀ r ∈ rows, r.2 = zs) ∧ (∀ r ∈ was, r.2 = zs) ∧
    Own B w (rows.map rwTexts ++ (was.map rwTexts ++ (bookR b (csOf V W) :: outRTexts V (rows.map (·.1)) :: outRTexts W (was.map (·.1)) :: [])))

set_option maxHeartbeats 8000000 in
set_option maxRecDepth 100000 in
theorem tells_short (B : Nat) (a : Option Addr) (len cap : Nat) (ss : List ByteArray) (s : ByteArray) (w : World) (hBe : w.heap.size = B) (h : IsRowS w a len ss) (hn : a = none → cap = 0) (hl : s.size ≤ 6000) :
    Calls Tryz.prog 3 #[.slice a len cap, .string s] w fun e w' => e = .returned (.bool true) ∧ Below B w w' := by
  have hsh := Lib.hid (short_any 60 6000 a len cap ss w (by omega) (by omega) (by omega) (by omega) h)
  rw [hBe] at hsh
  have HBE := Lib.hid hBe
  clear hBe
  have hd0 : decide (6000 < s.size) = false := by simp; omega
  go_enter Tryz.func3, Tryz.ntmps3
  go_wp2_with (go_at_call 4; refine hsh.out.mono ?_; rintro e w1 ⟨⟨t, rfl, ht⟩, hb1⟩; replace ht := Lib.hid ht; cases t)
  · clear ht
    go_wp2_with (go_at_call 5; refine (alive_any _).mono ?_; rintro e w2 ⟨rfl, hb2⟩)
    go_ret
    exact ⟨rfl, hb1.trans (hb2.mono (by rw [← HBE.out]; exact hb1.size))⟩
  · obtain ⟨ht1, ht2⟩ := ht.out (by trivial)
    have hn60 : ss.length ≤ 60 := by omega
    have ht60 : total ss ≤ 6000 := by omega
    have hlen : ss.length = len := h.1
    have hB1 : B ≤ w1.heap.size := by rw [← HBE.out]; exact hb1.size
    have hbk := book_new B w1 hB1
    have hsl := scanF_le s.size s.data.toList (Nat.le_refl _)
    have hln : s.data.toList.length = s.size := rfl
    obtain ⟨ts, nb, hsv⟩ : ∃ ts nb, scanF s.data.toList = (ts, nb) := ⟨_, _, rfl⟩
    rw [hsv, hln] at hsl
    have hsc := Lib.hid (fun w' : World => scan_any s w' (by omega))
    have hrs := Lib.hid (fun w' : World => refScan_any s w' (by omega))
    rw [hsv] at hsc hrs
    have htl : ts.length ≤ 6000 := by have := hsl.2.1; simp only at this; omega
    obtain ⟨zs, hzs⟩ : ∃ zs : List ByteArray, zs = ts.map fun t => ⟨t.toArray⟩ := ⟨_, rfl⟩
    have hzl : zs.length ≤ 6000 := by rw [hzs, List.length_map]; exact htl
    simp only [rowT_rw, ← hzs] at hsc hrs
    obtain ⟨X, eo, hov⟩ := openV_form s.data.toList
    have hop := Lib.hid (fun w' : World => open_any s w' (by omega))
    have hro := Lib.hid (fun w' : World => refOpen_any s w' (by omega))
    rw [hov] at hop hro
    have hse := Lib.hid (fun w' : World => seal_any s w' (by omega))
    have hrse := Lib.hid (fun w' : World => refSeal_any s w' (by omega))
    generalize (⟨(sealF s.data.toList).toArray⟩ : ByteArray) = SL at hse hrse
    have hfr := Lib.hid (fun w' a' cap' hr => frame_any a' len cap' ss w' hr (by omega) (by omega))
    have hrf := Lib.hid (fun w' hr => refFrame_any a len cap ss w' hr (by omega) (by omega))
    generalize (⟨(frames (texts ss)).toArray⟩ : ByteArray) = FR at hfr hrf
    have hcr := Lib.hid (fun w' a' cap' hr => crc_any a' len cap' ss w' hr (by omega))
    have hjo := Lib.hid (fun w' hr => joined_any a len cap ss w' hr (by omega) (by omega))
    obtain ⟨J, hJ⟩ : ∃ J : ByteArray, J = ⟨(cat ss).toArray⟩ := ⟨_, rfl⟩
    rw [← hJ] at hjo
    have hJs : J.size ≤ 100000000 := by rw [hJ]; show (cat ss).toArray.size ≤ _; rw [List.size_toArray, cat_size]; omega
    have hrc := Lib.hid (fun w' : World => refCrc_any J w' hJs)
    rw [show J.data.toList = cat ss by rw [hJ]] at hrc
    generalize crc (cat ss) = cc at hcr hrc
    have hle := Lib.hid (fun w' (hr : IsRowS w' a len ss) => lentS_row a len cap ss w' hr hn (by omega))
    have hst := Lib.hid (fun B' w' v' hl' hr => staysS_any B' v' a len cap ss w' hl' hr (by omega))
    have HROW := Lib.hid (fun (w' : World) (hb : Below B w w') => rowS_at h HBE.out hb)
    have HSS := Lib.hid h.2.1
    clear hsl hsv hov hJ hJs ht1 ht2 htl hsh h
    go_wp2
    go_loopw [6] (fun vi wr => ∃ k : Nat, k ≤ 2 ∧ vi = .int .i64 k ∧ Kept B w1.heap.size zs k wr ∧ Below B w wr) (fun vi _ => 2 - (intOf vi).toNat)
    case atStart => exact ⟨0, by omega, rfl, ⟨_, _, [], [], rfl, rfl, by simp, by simp, hbk⟩, hb1.alloc hB1 _⟩
    case round =>
      obtain ⟨k, hk, rfl, hkept, hbel⟩ := hrel
      have hBr : B ≤ wr.heap.size := by rw [← HBE.out]; exact hbel.size
      obtain ⟨V, W, rows, was, hr1, hr2, hr3, hr4, ho⟩ := hkept
      by_cases hk2 : k < 2
      · go_wp2_with (first
          | (go_at_call 6; refine (hle.out _ (HROW.out wr hbel)).mono ?_; rintro e w2 ⟨⟨v2, rfl, g2, cap2, rfl, hlr⟩, hb2⟩; have ho2 : Own B w2 (lentR g2 cap2 ss :: _) := ho.new hb2 hlr hBr; have hB2 : B ≤ w2.heap.size := Nat.le_trans hBr hb2.size; have k2 : Below B w w2 := hbel.trans (hb2.mono hBr); clear hlr)
          | (go_at_call 7; refine (hsc.out _).mono ?_; rintro e w3 ⟨v3, rfl, hrow3, hb3⟩; have ho3 := ho2.new hb3 hrow3 hB2; have hB3 : B ≤ w3.heap.size := Nat.le_trans hB2 hb3.size; have k3 : Below B w w3 := k2.trans (hb3.mono hB2); clear hrow3)
          | (go_at_call 8; refine (hrs.out _).mono ?_; rintro e w4 ⟨v4, rfl, hrow4, hb4⟩; have ho4 := ho3.new hb4 hrow4 hB3; have hB4 : B ≤ w4.heap.size := Nat.le_trans hB3 hb4.size; have k4 : Below B w w4 := k3.trans (hb4.mono hB3); clear hrow4)
          | (go_at_call 9; refine (hop.out _).mono ?_; rintro e w5 ⟨rfl, hb5⟩; have ho5 := ho4.below hb5; have hB5 : B ≤ w5.heap.size := Nat.le_trans hB4 hb5.size; have k5 : Below B w w5 := k4.trans (hb5.mono hB4))
          | (go_at_call 10; refine (hro.out _).mono ?_; rintro e w6 ⟨rfl, hb6⟩; have ho6 := ho5.below hb6; have hB6 : B ≤ w6.heap.size := Nat.le_trans hB5 hb6.size; have k6 : Below B w w6 := k5.trans (hb6.mono hB5))
          | fail)
        have hadd := Lib.hid (addTexts_any B w1.heap.size (csOf V W) V W v3 (rows.map (·.1)) (was.map (·.1)) zs (rwTexts (v4, zs) :: lentR g2 cap2 ss :: (rows.map rwTexts ++ was.map rwTexts)) w6 rfl rfl (ho6.perm (perm_tells _ _ _ _ _ _ _ _)) (by simp; omega) (by simp; omega) (by omega) hB6)
        clear ho2 ho3 ho4 ho5 ho6 ho
        go_wp2_with (go_at_call 11; refine hadd.out.mono ?_; rintro e w7 ⟨rfl, hb7, V', W', v', ho7⟩)
        have k7 : Below B w w7 := k6.trans hb7
        have hB7 : B ≤ w7.heap.size := Nat.le_trans hB6 hb7.size
        have hm7 : IsRowS w7 (some ⟨g2, 0, none⟩) len ss := by rw [← hlen]; exact lentR_row (ho7.1 (lentR g2 cap2 ss) (by simp)) HSS.out
        have HO7 := Lib.hid ho7
        clear hadd ho7
        go_wp2_with (first
          | (go_at_call 12; refine (hcr.out _ _ _ hm7).mono ?_; rintro e w8 ⟨rfl, rfl⟩)
          | (go_at_call 14; refine (hjo.out _ (HROW.out w7 k7)).mono ?_; rintro e w8 ⟨rfl, rfl⟩)
          | (go_at_call 13; refine (hrc.out _).mono ?_; rintro e w8 ⟨rfl, rfl⟩)
          | (go_at_call 15; refine (hfr.out _ _ _ hm7).mono ?_; rintro e w8 ⟨rfl, hb8⟩; have k8 : Below B w w8 := k7.trans (hb8.mono hB7); have hB8 : B ≤ w8.heap.size := Nat.le_trans hB7 hb8.size)
          | (go_at_call 16; refine (hrf.out _ (HROW.out w8 k8)).mono ?_; rintro e w9 ⟨rfl, hb9⟩; have k9 : Below B w w9 := k8.trans (hb9.mono hB8); have hB9 : B ≤ w9.heap.size := Nat.le_trans hB8 hb9.size; have ho9 := (HO7.out.below hb8).below hb9)
          | (go_at_call 17; refine (sameTexts_rd v3 v4 zs w9 (ho9.1 (rwTexts (v3, zs)) (by simp)).rd (ho9.1 (rwTexts (v4, zs)) (by simp)).rd (by omega)).mono ?_; rintro e w10 ⟨rfl, n10, rfl⟩)
          | (go_at_call 18; refine (hse.out _).mono ?_; rintro e w11 ⟨rfl, hb11⟩; have ho11 := (ho9.below (drew_below' w9 n10)).below hb11; have hB11 : B ≤ w11.heap.size := Nat.le_trans hB9 hb11.size; have k11 : Below B w w11 := (k9.trans ((drew_below' w9 n10).mono hB9)).trans (hb11.mono hB9))
          | (go_at_call 19; refine (hrse.out _).mono ?_; rintro e w12 ⟨rfl, hb12⟩; have ho12 := ho11.below hb12; have hB12 : B ≤ w12.heap.size := Nat.le_trans hB11 hb12.size; have k12 : Below B w w12 := k11.trans (hb12.mono hB11))
          | (go_at_call 20; refine (hst.out B w12 _ ⟨g2, cap2, by rw [hlen], ho12.1 (lentR g2 cap2 ss) (by simp)⟩ (HROW.out w12 k12)).mono ?_; rintro e w13 ⟨rfl, hb13⟩; have ho13 := ho12.below hb13; have k13 : Below B w w13 := k12.trans (hb13.mono hB12))
          | fail)
        have hkept : Kept B w1.heap.size zs (k + 1) w13 := by
          refine ⟨V', W', rows ++ [(v3, zs)], was ++ [(v', zs)], by simp [hr1], by simp [hr2], ?_, ?_, ?_⟩
          · intro r hr
            rcases List.mem_append.1 hr with hr | hr
            · exact hr3 r hr
            · simp at hr; subst hr; rfl
          · intro r hr
            rcases List.mem_append.1 hr with hr | hr
            · exact hr4 r hr
            · simp at hr; subst hr; rfl
          · have h1 := ho13.perm (perm_back _ _ _ _ _ _ _ _ _)
            have h2 := h1.sub (List.sublist_append_right _ _)
            simp only [List.map_append, List.map_cons, List.map_nil]
            exact h2
        clear ho9 ho11 ho12 ho13
        go_wp2
        go_roundw
        case rel => exact ⟨k + 1, by omega, by go_num, hkept, k13⟩
        case measure => simp [intOf]; omega
      · have hke : k = 2 := by omega
        subst hke
        have hap := Lib.hid (fun (w' : World) (hb : Below wr.heap.size wr w') => apartTexts_any B w1.heap.size V W rows was [] w' (ho.below hb) (by
          apply List.ext_getElem
          · simp [hr1, hr2]
          · intro i h1 h2
            simp only [List.getElem_map]
            rw [hr3 _ (List.getElem_mem _), hr4 _ (List.getElem_mem _)]) (by omega) (fun r hr => by rw [hr3 r hr]; omega) (Nat.le_trans hBr hb.size))
        clear ho hr3 hr4 hr1 hr2
        go_wp2_with (first | (go_at_call 5; refine (alive_any _).mono ?_; rintro e w2 ⟨rfl, hb2⟩) | (go_at_call 21; refine (hap.out _ hb2).mono ?_; rintro e w3 ⟨rfl, hb3⟩) | fail)
        go_ret
        exact ⟨rfl, (hbel.trans (hb2.mono hBr)).trans hb3⟩
theorem sumTells_walk (a : Option Addr) (len cap : Nat) (ss : List ByteArray) (s : ByteArray) (hs : s.size ≤ maxLen) (w : World) (h : IsRowS w a len ss) (hn : a = none → cap = 0) :
    Calls Tryz.prog 3 #[.slice a len cap, .string s] w fun e w' => e = .returned (.bool true) ∧ Below w.heap.size w w' := by
  by_cases hl : 6000 < s.size
  · exact tells_long a len cap ss s hs w h hl
  · exact tells_short w.heap.size a len cap ss s w rfl h hn (by omega)
end Go.Proofs.YtgoehmmmajdenaaGreat
