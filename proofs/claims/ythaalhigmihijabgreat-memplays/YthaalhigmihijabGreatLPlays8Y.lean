/- Statement MemPlays. -/
import Derived.Test.YthaalhigmihijabGreatH4
import Derived.Test.YthaalhigmihijabGreatH1
namespace Go.Proofs.YthaalhigmihijabGreat
open Go.RowKit

theorem st8_start {B p b r : Nat} {ds : List Int} {w w2 : World} (h : Tab B p ds [] 0 0 w) (hr : w.cell? ⟨r, 0, none⟩ = some (.slice none 0 0)) (hr1 : w.cell? ⟨r, 1, none⟩ = some (.int .u64 0)) (hrf : ∀ j, w.frozen? ⟨r, j, none⟩ = false) (hrp : r ≠ p) (hrB : B ≤ r) (hdr : ∀ v b', w.cell? ⟨p, 13, none⟩ = some v → ob v = some b' → b' ≠ r) (hb : Below w.heap.size w w2) (hbook : Own B w2 [bookR b (List.replicate 28 (.slice none 0 0))]) (hbb : w.heap.size ≤ b) : ∃ dv, St8 B p r b ds [] 0 0 [] dv (.slice none 0 0) [] [] [] [] w2 := by
  obtain ⟨dv, h1, h2, h3⟩ := h.dr
  have hm := (tab_mem h).below hb
  have hrlt := lt_of_cell hr
  have href : RefM r 0 (.slice none 0 0) [] w := ⟨hr, hr1, hrf, row_nil _ _ _, fun _ => rfl, List.Pairwise.nil, by simp, by simp [ob]⟩
  have hmem : ∀ k ∈ ks8 p [] dv r (.slice none 0 0) [], k = p ∨ ob dv = some k ∨ k = r := fun k hk => by
    simp only [ks8, foot, hd, List.map_cons, List.map_nil, List.mem_append, List.mem_cons, List.not_mem_nil, or_false, Option.mem_toList] at hk
    rcases hk with hk | hk | hk | hk
    · exact .inl hk
    · exact .inr (.inl hk)
    · exact .inr (.inr hk)
    · simp [ob] at hk
  have hb' : ∀ k ∈ ks8 p [] dv r (.slice none 0 0) [], B ≤ k ∧ k < w.heap.size := fun k hk => by
    rcases hmem k hk with rfl | hk | rfl
    · exact ⟨h.base, h.hdlt⟩
    · exact ⟨(h3 k hk).1, h2.lt k hk⟩
    · exact ⟨hrB, hrlt⟩
  refine ⟨dv, hm, (hb.cell (p := ⟨p, 13, none⟩) h.hdlt).trans h1, href.below hb, ?_, fun k hk => ⟨(hb' k hk).1, Nat.lt_of_lt_of_le (hb' k hk).2 hb.size⟩, Book.start hbook (fun k hk => by have := (hb' k hk).2; omega)⟩
  have hpd : ∀ k, ob dv = some k → k ≠ p ∧ k ≠ r := fun k hk => ⟨fun e => (h3 k hk).2 (by rw [e]; simp [foot, hd]), hdr dv k h1 hk⟩
  unfold ks8
  cases ho : ob dv with
  | none => simp [foot, hd, ob]; exact fun e => hrp e.symm
  | some k =>
    have := hpd k ho
    simp [foot, hd, ob]
    exact ⟨⟨fun e => this.1 e.symm, fun e => hrp e.symm⟩, this.2⟩
/-- How MemPlays stands when both memories are made. -/
structure Pre8 (B p r g c n : Nat) (ds : List Int) (xs : List Value) (w : World) : Prop where
  tab : Tab B p ds [] 0 0 w
  ref : w.heap[r]? = some (.cells #[.slice none 0 0, .int .u64 0] 32)
  rp : r ≠ p
  rB : B ≤ r
  dr : ∀ v b', w.cell? ⟨p, 13, none⟩ = some v → ob v = some b' → b' ≠ r ∧ b' ≠ g
  gp : g ≠ p
  gr : g ≠ r
  gB : B ≤ g
  row : Row w 3 1 (.slice (some ⟨g, 0, none⟩) (n + 1) (c + 1)) (n + 1) xs
theorem Pre8.below {B p r g c n : Nat} {ds : List Int} {xs : List Value} {w w' : World} (h : Pre8 B p r g c n ds xs w) (hb : Below w.heap.size w w') : Pre8 B p r g c n ds xs w' :=
  ⟨h.tab.below hb, (hb.block r (Array.getElem?_eq_some_iff.1 h.ref).1).trans h.ref, h.rp, h.rB, fun v b' hv => h.dr v b' (by rw [← hv]; exact (hb.cell (p := ⟨p, 13, none⟩) h.tab.hdlt).symm), h.gp, h.gr, h.gB, row_below h.row hb⟩
theorem Pre8.turned {B p r g c n : Nat} {ds : List Int} {xs xs' : List Value} {w w' : World} (h : Pre8 B p r g c n ds xs w) (ht : Turn [g] w w') (hr : Row w' 3 1 (.slice (some ⟨g, 0, none⟩) (n + 1) (c + 1)) (n + 1) xs') : Pre8 B p r g c n ds xs' w' := by
  have hpg : p ∉ [g] := fun hm => h.gp (List.mem_singleton.1 hm).symm
  refine ⟨h.tab.turned ht (fun k hk hm => ?_) (fun v b hv hb hm => (h.dr v b hv hb).2 (List.mem_singleton.1 hm)), (ht.block r (Array.getElem?_eq_some_iff.1 h.ref).1 (fun hm => h.gr (List.mem_singleton.1 hm).symm)).trans h.ref, h.rp, h.rB, fun v b' hv => h.dr v b' (by rw [← hv]; exact (ht.cell h.tab.hdlt hpg).symm), h.gp, h.gr, h.gB, hr⟩
  simp [foot, hd] at hk
  exact h.gp (by rw [← List.mem_singleton.1 hm, hk])
theorem Pre8.start {B p r g c n : Nat} {ds : List Int} {xs : List Value} {w w2 : World} {b : Nat} (h : Pre8 B p r g c n ds xs w) (hb : Below w.heap.size w w2) (hbook : Own B w2 [bookR b (List.replicate 28 (.slice none 0 0))]) (hbb : w.heap.size ≤ b) : ∃ dv, St8 B p r b ds [] 0 0 [] dv (.slice none 0 0) [] [] [] [] w2 :=
  st8_start h.tab (by unfold World.cell?; rw [h.ref]; rfl) (by unfold World.cell?; rw [h.ref]; rfl) (fun j => by unfold World.frozen?; rw [h.ref]; simp) h.rp h.rB (fun v b' hv hb => (h.dr v b' hv hb).1) hb hbook hbb
theorem row_setI {w : World} {g c n : Nat} {xs : List Value} (h : Row w 3 1 (.slice (some ⟨g, 0, none⟩) n (c + 1)) n xs) (i : Nat) (hi : i < n) (v : Value) : Row (w.setCell ⟨g, i, none⟩ v) 3 1 (.slice (some ⟨g, 0, none⟩) n (c + 1)) n (xs.set i v) := by
  refine ⟨by rw [List.length_set]; exact h.1, ?_⟩
  rcases h.2 with ⟨h0, -⟩ | ⟨g', cap, cur, e, h1, h2, h3, h4, h5⟩
  · omega
  · cases e
    refine .inr ⟨g, c, cur.setIfInBounds i v, rfl, heap_setCell_same w g i cur _ v h1, h2, h3, by simpa using h4, ?_⟩
    rw [Array.toList_setIfInBounds, List.take_set, h5]
theorem addV_form (la f : Nat) (ws : List Wr) : ∃ A E : Int, addV la f ws = .tuple #[.int .u64 A, .int .i64 E] := by
  unfold addV
  split
  · exact ⟨_, _, rfl⟩
  · exact ⟨_, _, rfl⟩
theorem addL_len (L : List Ent) (la f : Nat) (ws : List Wr) : (addL L la f ws).length ≤ L.length + ws.length := by
  unfold addL
  split
  · rw [List.length_append, vers_length]
    exact Nat.le_refl _
  · omega
theorem addLa_le {la f : Nat} (ws : List Wr) (h : la ≤ 4611686018427387904) : addLa la f ws ≤ 4611686018427387904 := by
  unfold addLa
  split
  · rename_i hy
    unfold addOk at hy
    simp only [Bool.and_eq_true, decide_eq_true_eq] at hy
    omega
  · exact h
theorem addL_mem {L M : List Ent} (la f : Nat) (ws : List Wr) (h : ∀ e, e ∈ L ↔ e ∈ M) (e : Ent) : e ∈ addL L la f ws ↔ e ∈ addL M la f ws := by
  unfold addL
  split
  · rw [List.mem_append, List.mem_append, h e]
  · exact h e
theorem upto_len (tk : ByteArray) (Q : List Nd) : (upto tk Q).length ≤ Q.length := by
  unfold upto
  split
  · exact Nat.le_refl _
  · exact (List.takeWhile_sublist _).length_le
theorem set4 {w : World} {k j b : Nat} {v a0 a1 a2 a3 : Value} (h : w.cell? ⟨k, j, none⟩ = some v) (hne : k ≠ b) : ((((w.setCell ⟨b, 0, none⟩ a0).setCell ⟨b, 1, none⟩ a1).setCell ⟨b, 2, none⟩ a2).setCell ⟨b, 3, none⟩ a3).cell? ⟨k, j, none⟩ = some v := by
  have st : ∀ (W : World) (i : Nat) (a : Value), (W.setCell ⟨b, i, none⟩ a).cell? ⟨k, j, none⟩ = W.cell? ⟨k, j, none⟩ := fun W i a => World.cell?_setCell_other W _ _ _ (fun q => hne (by injection q with q1; exact q1.symm))
  rw [st, st, st, st]
  exact h
theorem boxe4 {w : World} {b : Nat} {K V : ByteArray} {s n : Int} (h : Boxe b ⟨#[]⟩ 0 0 ⟨#[]⟩ w) : Boxe b K s n V ((((w.setCell ⟨b, 0, none⟩ (.string K)).setCell ⟨b, 1, none⟩ (.int .u64 s)).setCell ⟨b, 2, none⟩ (.int .i64 n)).setCell ⟨b, 3, none⟩ (.string V)) := by
  have h1 := heap_setCell_same w b 0 _ _ (.string K) h
  have h2 := heap_setCell_same _ b 1 _ _ (.int .u64 s) h1
  have h3 := heap_setCell_same _ b 2 _ _ (.int .i64 n) h2
  have h4 := heap_setCell_same _ b 3 _ _ (.string V) h3
  exact h4.trans rfl
/-- A step in a box. -/
def OBox (w : World) (k : Nat) (x : O8) : Prop := w.heap[k]? = some (.cells #[.int .u64 (x.f : Int), .slice x.a x.len x.cap, .string x.k, .string x.e, .int .u64 (x.q : Int)] 63)
theorem OBox.c {w : World} {k : Nat} {x : O8} (h : OBox w k x) {j : Nat} {v : Value} (hj : (#[.int .u64 (x.f : Int), .slice x.a x.len x.cap, .string x.k, .string x.e, .int .u64 (x.q : Int)] : Array Value)[j]? = some v) : w.cell? ⟨k, j, none⟩ = some v := by
  unfold World.cell?
  rw [show w.heap[k]? = _ from h]
  exact hj
theorem OBox.lt {w : World} {k : Nat} {x : O8} (h : OBox w k x) : k < w.heap.size := (Array.getElem?_eq_some_iff.1 h).1
theorem OBox.below {w w' : World} {k : Nat} {x : O8} (h : OBox w k x) (hb : Below w.heap.size w w') : OBox w' k x := (hb.block k h.lt).trans h
set_option maxHeartbeats 16000000 in
set_option maxRecDepth 100000 in
theorem memPlays_walk (a0 : Option Addr) (len0 cap0 : Nat) (ks : List Int) (z : Bool) (a2 : Option Addr) (len2 cap2 : Nat) (os : List O8) (w : World) (hD : IsIs w a0 len0 ks) (hO : IsO8 w a2 len2 os) (hn0 : a0 = none → cap0 = 0) :
    Calls Tryz.prog 3 #[.slice a0 len0 cap0, .bool z, .slice a2 len2 cap2] w fun e w' => e = .returned (.bool true) ∧ Below w.heap.size w w' := by
  have CA := Lib.hid alive8_any
  have hlm0 : len0 ≤ 9223372036854775807 := by have := hD.1; unfold maxLen at this; omega
  have hlm2 : len2 ≤ 9223372036854775807 := by have := hO.1; unfold maxLen at this; omega
  have HI := Lib.hid (intsV_of (cap := cap0) hD hn0)
  have hkl : ks.length = len0 := hD.2.1
  have HO := Lib.hid hO
  have hel : os.length = len2 := hO.2.2.1
  clear hO hD hn0
  go_enter Tryz.func3, Tryz.ntmps3
  by_cases g1 : len0 ≤ 60
  case neg =>
    have d1 : decide (60 < (len0 : Int)) = true := by simp; omega
    have d1' : decide (60 < len0) = true := by simp; omega
    go_wp2_with (go_at_call 4; refine (CA.out _).mono ?_; rintro _ w2 ⟨rfl, b2⟩)
    go_ret
    exact ⟨rfl, b2⟩
  have d1 : decide (60 < (len0 : Int)) = false := by simp; omega
  have d1' : decide (60 < len0) = false := by simp; omega
  by_cases g2 : len2 ≤ 40
  case neg =>
    have d2 : decide (40 < (len2 : Int)) = true := by simp; omega
    have d2' : decide (40 < len2) = true := by simp; omega
    go_wp2_with (go_at_call 4; refine (CA.out _).mono ?_; rintro _ w2 ⟨rfl, b2⟩)
    go_ret
    exact ⟨rfl, b2⟩
  have d2 : decide (40 < (len2 : Int)) = false := by simp; omega
  have d2' : decide (40 < len2) = false := by simp; omega
  have CL := Lib.hid (lentI8_any a0 len0 cap0 ks w HI.out (by omega))
  rw [hkl] at CL
  go_wp2_with (fail)
  clear d1 d1' d2 d2'
  (with_reducible refine CL.out.mono ?_)
  rintro _ w1 ⟨g, c, rfl, hrow1, hg1, b1⟩
  have HB1 := Lib.hid b1
  have HR1 := Lib.hid hrow1
  have CN := Lib.hid (memNew_any (.slice (some ⟨g, 0, none⟩) len0 (c + 1)) ks w1 (by
    have := intsV_plain (w := w1) g 0 (c + 1) ks (fun j u hu => hrow1.cell g 0 (c + 1) rfl j u (by rw [List.getElem?_append_left (List.getElem?_eq_some_iff.1 hu).1]; exact hu))
    rw [hkl] at this
    exact this) (by omega))
  clear hrow1 b1
  go_wp2_with (fail)
  (with_reducible refine CN.out.mono ?_)
  rintro _ w2 ⟨p, rfl, ht2, b2⟩
  have HT2 := Lib.hid ht2
  have HB2 := Lib.hid b2
  clear ht2 b2
  go_upto_if 39 with fail
  obtain ⟨W3, hW3⟩ : ∃ W3, w2.alloc (.cells #[.slice none 0 0, .int .u64 0] 32) = W3 := ⟨_, rfl⟩
  have hb3 : Below w2.heap.size w2 W3 := by rw [← hW3]; exact (Below.refl _ _).alloc (Nat.le_refl _) _
  have href : W3.heap[w2.heap.size]? = some (.cells #[.slice none 0 0, .int .u64 0] 32) := by rw [← hW3]; exact new_block _ _ rfl
  have HB3 := Lib.hid (show Below w1.heap.size w1 W3 from HB2.out.trans (hb3.mono HB2.out.size))
  have HBW := Lib.hid (show Below w.heap.size w W3 from HB1.out.trans (HB3.out.mono HB1.out.size))
  have hgl : g < w1.heap.size := HR1.out.lt g rfl
  have HRW := Lib.hid (row_below HR1.out HB3.out)
  have HTB := Lib.hid (HT2.out.below hb3)
  have HREF := Lib.hid href
  have hs12 : w1.heap.size ≤ w2.heap.size := HB2.out.size
  have hs01 : w.heap.size ≤ w1.heap.size := HB1.out.size
  have HB23 := Lib.hid hb3
  rw [hW3]
  clear hW3 hb3 href
  go_cut [8] (fun v wx => ∃ (p : Nat) (ds : List Int), v = .pointer (some ⟨p, 0, none⟩) ∧ ds.length ≤ 60 ∧ Pre8 w.heap.size p w2.heap.size g c len0 ds (cellsI ks ++ [.int .i64 (-77)]) wx ∧ Below w.heap.size w wx)
  case first =>
    cases z with
    | false =>
      go_wp2_with fail
      go_meet
      refine ⟨p, ks, rfl, by omega, ⟨⟨⟨HTB.out.skp.lst, HTB.out.skp.right, fun k hk => Nat.le_trans hs01 (HTB.out.skp.base k hk)⟩, ?_, HTB.out.size, HTB.out.last⟩, HREF.out, ?_, by omega, fun v b' hv hb => ?_, ?_, by omega, hg1, HRW.out⟩, HBW.out⟩
      · obtain ⟨v, h1, h2, h3⟩ := HTB.out.dr
        exact ⟨v, h1, h2, fun b hb => ⟨Nat.le_trans hs01 (h3 b hb).1, (h3 b hb).2⟩⟩
      · have := HT2.out.hdlt
        omega
      · obtain ⟨v', h1, h2, h3⟩ := HT2.out.dr
        have e1 : W3.cell? ⟨p, 13, none⟩ = w2.cell? ⟨p, 13, none⟩ := HB23.out.cell (p := ⟨p, 13, none⟩) HT2.out.hdlt
        rw [e1, h1] at hv
        cases hv
        have := h2.lt b' hb
        have := (h3 b' hb).1
        omega
      · have := HT2.out.base
        omega
    | true =>
      go_wp2_with fail
      go_meet
      refine ⟨W3.heap.size, [], rfl, by simp, ⟨?_, ?_, ?_, by omega, fun v b' hv hb => ?_, ?_, by omega, hg1, ?_⟩, ?_⟩
      · exact tab_new (new_block _ _ rfl) (by have := HBW.out.size; omega) (row_nil _ _ _) (fun b hb => by simp [ob] at hb)
      · exact (Below.heap_alloc _ _ _ (Array.getElem?_eq_some_iff.1 HREF.out).1).trans HREF.out
      · have := (Array.getElem?_eq_some_iff.1 HREF.out).1
        omega
      · have h1 := (lst_tab (v := .slice none 0 0) (new_block W3 _ rfl)).2.1
        rw [h1] at hv
        cases hv
        simp [ob] at hb
      · have := HB3.out.size
        omega
      · exact row_new HRW.out _
      · exact HBW.out.alloc HBW.out.size _
  case rest =>
    obtain ⟨q, ds, rfl, hds, hpre, hbx⟩ := hcut
    obtain ⟨W4, rfl⟩ : ∃ W4, W4 = wc := ⟨_, rfl⟩
    have CS := staysI8_any g c a0 len0 cap0 ks W4 (by rw [hkl]; exact hpre.row) (HI.out.below hbx) (by omega)
    rw [hkl] at CS
    have CS := Lib.hid CS
    have HP := Lib.hid hpre
    have HBX := Lib.hid hbx
    clear hpre hbx HT2 HTB HREF HRW HBW HB3 HB23 HB2 HR1
    go_wp2_with (fail)
    (with_reducible refine CS.out.mono ?_)
    rintro _ w5 ⟨rfl, b5⟩
    have HP5 := Lib.hid (HP.out.below b5)
    have HB5 := Lib.hid (show Below w.heap.size w w5 from HBX.out.trans (b5.mono HBX.out.size))
    clear b5 HP HBX
    go_wp2_with (fail)
    go_loopw [10] (fun iv wr => ∃ (i : Nat) (xs : List Value), iv = .int .i64 (i : Int) ∧ i ≤ len0 ∧ Pre8 w.heap.size q w2.heap.size g c len0 ds xs wr ∧ Below w.heap.size w wr) (fun iv _ => len0 - (intOf iv).toNat)
    case atStart => exact ⟨0, _, rfl, Nat.zero_le _, HP5.out, HB5.out⟩
    case round =>
      obtain ⟨i, xs, rfl, hi, hpr, hbr⟩ := hrel
      have HPR := Lib.hid hpr
      have HBR := Lib.hid hbr
      by_cases hlt : i < len0
      · have hil : (i : Int) < (len0 : Int) := by omega
        have hxl : xs.length = (len0 + 1) * 1 := hpr.row.1
        obtain ⟨u, hu⟩ : ∃ u, xs[i]? = some u := ⟨xs[i]'(by omega), List.getElem?_eq_getElem (by omega)⟩
        have cu : wr.cell? ⟨g, i, none⟩ = some u := by
          have := hpr.row.cell g 0 (c + 1) rfl i u hu
          rw [Nat.zero_add] at this
          exact this
        have fu : wr.frozen? ⟨g, i, none⟩ = false := by
          rcases hpr.row.2 with ⟨h0, -⟩ | ⟨g', cap, cur, e, h1, -⟩
          · cases h0
          · cases e
            simp [World.frozen?, h1]
        clear hpr hbr hxl hu
        go_wp2
        go_roundw
        case rel => exact ⟨i + 1, _, by go_num, by omega, HPR.out.turned ((Turn.refl _ _).setCell (.inl (by simp)) _) (row_setI HPR.out.row i (by omega) (.int .i64 (-77))), HBR.out.setCell (HPR.out.gB) _⟩
        case measure => simp [intOf]; omega
      · obtain rfl : i = len0 := by omega
        obtain ⟨w6, rfl⟩ : ∃ w6, w6 = wr := ⟨_, rfl⟩
        clear hpr hbr
        have hb7 : ∀ o, Below w6.heap.size w6 (w6.alloc o) := fun o => (Below.refl _ _).alloc (Nat.le_refl _) _
        obtain ⟨dv0, hst0⟩ := HPR.out.start (hb7 _) (book_new7 w.heap.size w6 HBR.out.size) (Nat.le_refl _)
        have HST := Lib.hid hst0
        have HB7 := Lib.hid (show ∀ o, Below w.heap.size w (w6.alloc o) from fun o => HBR.out.alloc HBR.out.size o)
        clear hst0 hb7 HPR HBR HP5 HB5 CS CN CL
        go_wp2_with (fail)
        generalize w2.heap.size = r at *
        generalize w6.heap.size = b at *
        go_loopw [12] (fun iv wr => ∃ (j : Nat) (L : List Ent) (la : Nat) (ns : List Nd) (dv rv : Value), iv = .int .i64 (j : Int) ∧ j ≤ len2 ∧ L.length ≤ 20 * j ∧ la ≤ 4611686018427387904 ∧ St8 w.heap.size q r b ds L la la ns dv rv (entsOf ns) [] [] [] wr ∧ Below w.heap.size w wr) (fun iv _ => len2 - (intOf iv).toNat)
        case atStart => exact ⟨0, [], 0, [], dv0, .slice none 0 0, rfl, Nat.zero_le _, by simp, by omega, HST.out, HB7.out _⟩
        case round =>
          obtain ⟨j, L, la, ns, dv, rv, rfl, hj, hLl, hla, hst, hbr⟩ := hrel
          have HS := Lib.hid hst
          have HBR := Lib.hid hbr
          clear HST HB7
          by_cases hlt : j < len2
          · have hjl : (j : Int) < (len2 : Int) := by omega
            obtain ⟨W0, rfl⟩ : ∃ W0, W0 = wr := ⟨_, rfl⟩
            obtain ⟨ob0, off, rfl, hblt, x, hget, hcell⟩ : ∃ b off, a2 = some ⟨b, off, none⟩ ∧ b < w.heap.size ∧ ∃ x : O8, os[j]? = some x ∧ ∀ i u, x.cells[i]? = some u → W0.cell? ⟨b, off + j * 5 + i, none⟩ = some u := by
              rcases (HO.out.2.2.below hbr).2 with h0 | ⟨b, off, e, h1, h2⟩
              · omega
              · exact ⟨b, off, e, h1, os[j]'(by omega), List.getElem?_eq_getElem (by omega), h2 j (by omega)⟩
            have hok := HO.out.2.1 x (List.mem_of_getElem? hget)
            obtain ⟨xf, xa, xl, xc, xws, xk, xe, xq⟩ := x
            have q0 : W0.cell? ⟨ob0, off + j * 5, none⟩ = some (.int .u64 (xf : Int)) := hcell 0 _ rfl
            have q1 : W0.cell? ⟨ob0, off + j * 5 + 1, none⟩ = some (.slice xa xl xc) := hcell 1 _ rfl
            have q2 : W0.cell? ⟨ob0, off + j * 5 + 2, none⟩ = some (.string xk) := hcell 2 _ rfl
            have q3 : W0.cell? ⟨ob0, off + j * 5 + 3, none⟩ = some (.string xe) := hcell 3 _ rfl
            have q4 : W0.cell? ⟨ob0, off + j * 5 + 4, none⟩ = some (.int .u64 (xq : Int)) := hcell 4 _ rfl
            have HOK := Lib.hid hok
            clear hcell hget hst hbr hok
            go_upto_region 18 with fail
            obtain ⟨W1, hW1⟩ : ∃ W1, W0.alloc (.cells #[.int .u64 (xf : Int), .slice xa xl xc, .string xk, .string xe, .int .u64 (xq : Int)] 63) = W1 := ⟨_, rfl⟩
            have hb1 : Below W0.heap.size W0 W1 := by rw [← hW1]; exact (Below.refl _ _).alloc (Nat.le_refl _) _
            have hx1 : OBox W1 W0.heap.size ⟨xf, xa, xl, xc, xws, xk, xe, xq⟩ := by rw [← hW1]; exact new_block _ _ rfl
            have HS1 := Lib.hid (HS.out.addX hb1 (Nat.le_refl _) hx1.lt)
            have HB1' := Lib.hid (show Below w.heap.size w W1 from HBR.out.trans (hb1.mono HBR.out.size))
            have HX1 := Lib.hid hx1
            have z1 : W1.cell? ⟨W0.heap.size, 1, none⟩ = some (.slice xa xl xc) := hx1.c rfl
            have CSM := Lib.hid (smallW_any xa xl xc xws ((HOK.out.ws.2.2.below HB1'.out).mono HB1'.out.size) (by have := HOK.out.ws.1; unfold maxLen at this; simp only at this; omega) HOK.out.ws.2.1)
            rw [hW1]
            clear hW1 hb1 hx1 q0 q1 q2 q3 q4
            go_wp2_with (fail)
            (with_reducible refine CSM.out.mono ?_)
            rintro _ W2 ⟨t, rfl, hfew, b2⟩
            have HB2' := Lib.hid (show Below w.heap.size w W2 from HB1'.out.trans (b2.mono HB1'.out.size))
            cases t with
            | false =>
              go_wp2
              go_ret
              exact ⟨rfl, HB2'.out⟩
            | true =>
              obtain ⟨f1, f2⟩ := hfew rfl
              have hwl : xws.length = xl := HOK.out.ws.2.2.1
              have HS2 := Lib.hid (HS1.out.below b2)
              have HX2 := Lib.hid (HX1.out.below b2)
              have hkm : xk.size ≤ 9223372036854775807 := by have := HOK.out.k; unfold maxLen at this; simp only at this; omega
              have hem : xe.size ≤ 9223372036854775807 := by have := HOK.out.e; unfold maxLen at this; simp only at this; omega
              have y1 : W2.cell? ⟨W0.heap.size, 1, none⟩ = some (.slice xa xl xc) := HX2.out.c rfl
              have y2 : W2.cell? ⟨W0.heap.size, 2, none⟩ = some (.string xk) := HX2.out.c rfl
              have y3 : W2.cell? ⟨W0.heap.size, 3, none⟩ = some (.string xe) := HX2.out.c rfl
              clear hfew b2 z1 CSM HS1 HX1 HB1' f2
              by_cases h20 : xl ≤ 20
              case neg =>
                have e1 : decide (20 < (xl : Int)) = true := by simp; omega
                have e1' : decide (20 < xl) = true := by simp; omega
                go_wp2
                go_ret
                exact ⟨rfl, HB2'.out⟩
              have e1 : decide (20 < (xl : Int)) = false := by simp; omega
              have e1' : decide (20 < xl) = false := by simp; omega
              by_cases hk3 : xk.size ≤ 300
              case neg =>
                have e2 : decide (300 < (xk.size : Int)) = true := by simp; omega
                have e2' : decide (300 < xk.size) = true := by simp; omega
                go_wp2
                go_ret
                exact ⟨rfl, HB2'.out⟩
              have e2 : decide (300 < (xk.size : Int)) = false := by simp; omega
              have e2' : decide (300 < xk.size) = false := by simp; omega
              by_cases he3 : xe.size ≤ 300
              case neg =>
                have e3 : decide (300 < (xe.size : Int)) = true := by simp; omega
                have e3' : decide (300 < xe.size) = true := by simp; omega
                go_wp2
                go_ret
                exact ⟨rfl, HB2'.out⟩
              have e3 : decide (300 < (xe.size : Int)) = false := by simp; omega
              have e3' : decide (300 < xe.size) = false := by simp; omega
              have CLW := lentW_any xa xc xws W2 (src_wrs (by rw [hwl]; exact HOK.out.ws.2.2.below HB2'.out) (fun e => ⟨by
                rcases HOK.out.ws.2.2.2 with h0 | ⟨b', o', e', -⟩
                · exact List.length_eq_zero_iff.1 (by rw [hwl]; exact h0)
                · have e2 : xa = some ⟨b', o', none⟩ := e'
                  rw [e] at e2
                  exact absurd e2 (by simp), HOK.out.nil e⟩)) (by omega)
              rw [hwl] at CLW
              have CLW := Lib.hid CLW
              go_wp2_with (fail)
              (with_reducible refine CLW.out.mono ?_)
              rintro _ W3 ⟨g2, c2, rfl, hlr, hg2, b3⟩
              have hls : LentWs W3 g2 c2 xws := ⟨by rw [hwl]; exact hlr⟩
              have hs3 := HS2.out.addX b3 hg2 (hls.row.lt g2 rfl)
              have hx3 := HX2.out.below b3
              have hbw3 : Below w.heap.size w W3 := HB2'.out.trans (b3.mono HB2'.out.size)
              have hq3 := hs3.exlt (k := g2) (by simp)
              have ho3 := hs3.exlt (k := W0.heap.size) (by simp)
              have CMA := memAdd_any hs3.mem xf (some ⟨g2, 0, none⟩) xl (c2 + 1) xws (by have := hls.wrs; rw [hwl] at this; exact this) HOK.out.ws.2.1 (fun b' o' e _ => by cases e; exact hq3.1) (by omega) HOK.out.f (by omega) (by omega) (by omega)
              obtain ⟨A, E, hAE⟩ := addV_form la xf xws
              rw [hAE] at CMA
              have CMA := Lib.hid CMA
              have y0 : W3.cell? ⟨W0.heap.size, 0, none⟩ = some (.int .u64 (xf : Int)) := hx3.c rfl
              have HAE := Lib.hid hAE
              have HS3 := Lib.hid hs3
              have HX3 := Lib.hid hx3
              have HB3 := Lib.hid hbw3
              have HQ3 := Lib.hid hq3
              have HO3 := Lib.hid ho3
              have HLS := Lib.hid hls
              clear e1 e1' e2 e2' e3 e3' y1 y2 y3 hls hs3 hx3 hbw3 hq3 ho3 hAE hlr b3 CLW HS2 HX2 HB2'
              go_wp2_with (fail)
              (with_reducible refine CMA.out.mono ?_)
              rintro _ W4 ⟨rfl, ns', hm4, ht4, hf4, h13⟩
              have hs4 := HS3.out.madd hm4 ht4 hf4 h13
              have hx4 : OBox W4 W0.heap.size ⟨xf, xa, xl, xc, xws, xk, xe, xq⟩ := (ht4.block _ HX3.out.lt HO3.out.1).trans HX3.out
              have hls4 := HLS.out.keep (ht4.block g2 (HLS.out.row.lt g2 rfl) HQ3.out.1)
              have hbw4 : Below w.heap.size w W4 := HB3.out.trans (ht4.below HB3.out.size (fun k hk => HS3.out.mem.tab.skp.base k hk))
              have CRA := refAdd_any hs4.ref (fun e he => HS3.out.mem.old e ((HS3.out.mem.mem e).1 he)) xf xa xl xc xws ((HOK.out.ws.2.2.below hbw4).mono hbw4.size) HOK.out.ws.2.1 (fun b' o' e h0 => by
                rcases HOK.out.ws.2.2.2 with h1 | ⟨b3, o3, e3, h3, -⟩
                · have h1' : xl = 0 := h1
                  omega
                · have e4 : xa = some ⟨b3, o3, none⟩ := e3
                  rw [e] at e4
                  cases e4
                  have := (hs4.base r k8_r).1
                  omega) (by omega) HOK.out.f (by rw [ents_len, HS3.out.mem.len]; omega) (by omega)
              rw [HAE.out] at CRA
              have CRA := Lib.hid CRA
              have z0 : W4.cell? ⟨W0.heap.size, 0, none⟩ = some (.int .u64 (xf : Int)) := hx4.c rfl
              have z1 : W4.cell? ⟨W0.heap.size, 1, none⟩ = some (.slice xa xl xc) := hx4.c rfl
              have HS4 := Lib.hid hs4
              have HX4 := Lib.hid hx4
              have HB4 := Lib.hid hbw4
              have HLS4 := Lib.hid hls4
              have HLM := Lib.hid (show ∀ e, e ∈ addL (entsOf ns) la xf xws ↔ e ∈ addL L la xf xws from addL_mem la xf xws HS3.out.mem.mem)
              clear hs4 hx4 hls4 hbw4 hm4 ht4 hf4 h13 y0 HS3 HX3 HB3 HLS CMA
              go_wp2_with (fail)
              (with_reducible refine CRA.out.mono ?_)
              rintro _ W5 ⟨rfl, rv', er', hr5, hm5, ho5, ht5⟩
              have hs5 := HS4.out.radd hr5 ht5 ho5
              obtain rfl := hs5.same (fun e => (hm5 e).trans (HLM.out e))
              have hx5 : OBox W5 W0.heap.size ⟨xf, xa, xl, xc, xws, xk, xe, xq⟩ := (ht5.block _ HX4.out.lt (fun hm => HO3.out.2 (List.mem_singleton.1 hm))).trans HX4.out
              have hls5 := HLS4.out.keep (ht5.block g2 (HLS4.out.row.lt g2 rfl) (fun hm => HQ3.out.2 (List.mem_singleton.1 hm)))
              have hbw5 : Below w.heap.size w W5 := HB4.out.trans (ht5.below HB4.out.size (fun k hk => by rw [List.mem_singleton.1 hk]; exact (HS4.out.base r k8_r).1))
              have hL' : (addL L la xf xws).length ≤ 20 * (j + 1) := by have := addL_len L la xf xws; omega
              have hla' := addLa_le (f := xf) xws hla
              generalize addL L la xf xws = L' at *
              generalize addLa la xf xws = la' at *
              obtain ⟨P, Q, hc⟩ := cut_of xk (xq : Int) ns' hs5.mem.tab.skp.right.ord
              obtain ⟨P2, Q2, hc2⟩ := cut_of xk 18446744073709551615 ns' hs5.mem.tab.skp.right.ord
              have CG := memGet_any hs5.mem.tab hc
              have CP := fun W ex (h' : St8 w.heap.size q r b ds L' la' la' ns' dv rv' (entsOf ns') ex [] [] W) => h'.pick hc (by omega)
              have CR := Lib.hid (fun W ex (h' : St8 w.heap.size q r b ds L' la' la' ns' dv rv' (entsOf ns') ex [] [] W) => h'.range xe hc2 (by omega))
              have CRR := Lib.hid (fun W ex xs rd (h' : St8 w.heap.size q r b ds L' la' la' ns' dv rv' (entsOf ns') ex xs rd W) => h'.rrange xe hc2 (by omega) hk3 he3)
              have HUL := Lib.hid (show ((entsOf (upto xe Q2)).map elOf).length ≤ 100000 by
                rw [List.length_map, ents_len]
                have h1 := upto_len xe Q2
                have h2 : ns'.length = P2.length + Q2.length := by rw [hc2.all]; simp
                have h3 := hs5.mem.len
                omega)
              generalize getR xk Q = o at CG CP
              unfold getV Ent.val ev at CG CP
              obtain ⟨⟨K1, s1, n1, v1⟩, hy1⟩ : ∃ y, o.getD Ent.zero = y := ⟨_, rfl⟩
              obtain ⟨bo, hbo⟩ : ∃ bo, o.isSome = bo := ⟨_, rfl⟩
              rw [hy1, hbo] at CG CP
              have CG := Lib.hid CG
              have CP := Lib.hid CP
              have x2 : W5.cell? ⟨W0.heap.size, 2, none⟩ = some (.string xk) := hx5.c rfl
              have x4 : W5.cell? ⟨W0.heap.size, 4, none⟩ = some (.int .u64 (xq : Int)) := hx5.c rfl
              have HS5 := Lib.hid hs5
              have HX5 := Lib.hid hx5
              have HB5' := Lib.hid hbw5
              have HLS5 := Lib.hid hls5
              clear hs5 hx5 hls5 hbw5 hr5 hm5 ho5 ht5 z0 z1 HS4 HX4 HB4 HLS4 HLM CRA hy1 hbo hc hc2 HAE
              go_wp2_with (fail)
              (with_reducible refine CG.out.mono ?_)
              rintro _ W6 ⟨rfl, b6⟩
              have HS6 := Lib.hid (HS5.out.below b6)
              have HX6 := Lib.hid (HX5.out.below b6)
              have HB6 := Lib.hid (show Below w.heap.size w W6 from HB5'.out.trans (b6.mono HB5'.out.size))
              have HLS6 := Lib.hid (HLS5.out.keep (b6.block g2 (HLS5.out.row.lt g2 rfl)))
              clear b6 HS5 HX5 HB5' HLS5 CG x2 x4
              go_upto_region 24 with fail
              obtain ⟨W7, hW7⟩ : ∃ W7, W6.alloc (.cells #[.string K1, .int .u64 s1, .int .i64 n1, .string v1] 34) = W7 := ⟨_, rfl⟩
              have hb7 : Below W6.heap.size W6 W7 := by rw [← hW7]; exact (Below.refl _ _).alloc (Nat.le_refl _) _
              have hbx7 : Boxe W6.heap.size K1 s1 n1 v1 W7 := by rw [← hW7]; exact new_block _ _ rfl
              have hs7 := HS6.out.addX hb7 (Nat.le_refl _) hbx7.lt
              have hx7 := HX6.out.below hb7
              have hr7 := hs7.ref.c0
              obtain ⟨ra, rc, hrv, -, -⟩ := hs7.ref.row.le
              have hrlt7 := hs7.ref.lt
              have holt7 := hx7.lt
              have y2 : W7.cell? ⟨W0.heap.size, 2, none⟩ = some (.string xk) := hx7.c rfl
              have y4 : W7.cell? ⟨W0.heap.size, 4, none⟩ = some (.int .u64 (xq : Int)) := hx7.c rfl
              have HS7 := Lib.hid hs7
              have HS7D := Lib.hid (hs7.below (show Below W7.heap.size W7 W7.drew from (Below.refl _ _).drew))
              have HX7 := Lib.hid hx7
              have HBX7 := Lib.hid hbx7
              have HB7' := Lib.hid (show Below w.heap.size w W7 from HB6.out.trans (hb7.mono HB6.out.size))
              have HLS7 := Lib.hid (HLS6.out.keep (hb7.block g2 (HLS6.out.row.lt g2 rfl)))
              rw [hW7]
              subst hrv
              clear hW7 hb7 hbx7 hs7 hx7 HS6 HX6 HB6 HLS6
              go_cut [21, 22] from 122 to 133 (fun yv bv wx => ∃ yb, yv = .pointer (some ⟨yb, 0, none⟩) ∧ W7.heap.size ≤ yb ∧ Boxe yb K1 s1 n1 v1 wx ∧ bv = .bool bo ∧ Below W7.heap.size W7 wx)
              case first =>
                have HSZ := Lib.hid (HS7.out.below (show Below W7.heap.size W7 (W7.alloc (.cells #[.string ⟨#[]⟩, .int .u64 0, .int .i64 0, .string ⟨#[]⟩] 34)).drew from ((Below.refl _ _).alloc (Nat.le_refl _) _).drew))
                have HZB := Lib.hid (show ∀ W8, Below (W7.alloc (.cells #[.string ⟨#[]⟩, .int .u64 0, .int .i64 0, .string ⟨#[]⟩] 34)).drew.heap.size (W7.alloc (.cells #[.string ⟨#[]⟩, .int .u64 0, .int .i64 0, .string ⟨#[]⟩] 34)).drew W8 → Boxe W7.heap.size ⟨#[]⟩ 0 0 ⟨#[]⟩ W8 ∧ Below W7.heap.size W7 W8 from fun W8 hb => by
                  have h0 : Boxe W7.heap.size ⟨#[]⟩ 0 0 ⟨#[]⟩ (W7.alloc (.cells #[.string ⟨#[]⟩, .int .u64 0, .int .i64 0, .string ⟨#[]⟩] 34)).drew := new_block W7 _ rfl
                  have h1 : Below W7.heap.size W7 (W7.alloc (.cells #[.string ⟨#[]⟩, .int .u64 0, .int .i64 0, .string ⟨#[]⟩] 34)).drew := ((Below.refl _ _).alloc (Nat.le_refl _) _).drew
                  exact ⟨h0.below hb, h1.trans (hb.mono h1.size)⟩)
                have hrne : r ≠ W7.heap.size := by omega
                have hone : W0.heap.size ≠ W7.heap.size := by omega
                go_region_held3 (fun w' => w'.cell? ⟨r, 0, none⟩ = some (.slice ra (entsOf ns').length rc) ∧ w'.cell? ⟨W0.heap.size, 2, none⟩ = some (.string xk) ∧ w'.cell? ⟨W0.heap.size, 4, none⟩ = some (.int .u64 (xq : Int))) (first | go_keep | with_reducible exact ⟨hr7, y2, y4⟩ | with_reducible exact ⟨m0, m2, m4⟩ | with_reducible exact ⟨ocell hrlt7 hr7, ocell holt7 y2, ocell holt7 y4⟩ | with_reducible exact ⟨ocell hr8l m0, ocell ho8l m2, ocell ho8l m4⟩ | with_reducible exact ⟨set4 m0 hrne, set4 m2 hone, set4 m4 hone⟩) (first
                  | (go_at_call 13; (with_reducible refine (CP.out _ _ HS7D.out).mono ?_); rintro e W8 ⟨rfl, b8⟩; have hB8 : Below W7.heap.size W7 W8 := ((Below.refl W7.heap.size W7).drew).trans b8; have m0 := (hB8.cell (p := ⟨r, 0, none⟩) hrlt7).trans hr7; have m2 := (hB8.cell (p := ⟨W0.heap.size, 2, none⟩) holt7).trans y2; have m4 := (hB8.cell (p := ⟨W0.heap.size, 4, none⟩) holt7).trans y4; have hr8l : r < W8.heap.size := Nat.lt_of_lt_of_le hrlt7 hB8.size; have ho8l : W0.heap.size < W8.heap.size := Nat.lt_of_lt_of_le holt7 hB8.size)
                  | (go_at_call 13; (with_reducible refine (CP.out _ _ HSZ.out).mono ?_); rintro e W8 ⟨rfl, b8⟩; obtain ⟨zb, hB8⟩ := HZB.out W8 b8; have m0 := (hB8.cell (p := ⟨r, 0, none⟩) hrlt7).trans hr7; have m2 := (hB8.cell (p := ⟨W0.heap.size, 2, none⟩) holt7).trans y2; have m4 := (hB8.cell (p := ⟨W0.heap.size, 4, none⟩) holt7).trans y4; have hr8l : r < W8.heap.size := Nat.lt_of_lt_of_le hrlt7 hB8.size; have ho8l : W0.heap.size < W8.heap.size := Nat.lt_of_lt_of_le holt7 hB8.size; have z0 := zb.c0; have z1 := zb.c1; have z2 := zb.c2; have z3 := zb.c3; have t0 := zb.f 0; have t1 := zb.f 1; have t2 := zb.f 2; have t3 := zb.f 3)
                  | fail)
                all_goals go_wp2
                all_goals go_meet
                all_goals first
                  | exact ⟨_, rfl, hB8.size, new_block _ _ rfl, rfl, hB8.alloc hB8.size _⟩
                  | exact ⟨_, rfl, Nat.le_refl _, boxe4 zb, rfl, (((hB8.setCell (Nat.le_refl _) _).setCell (Nat.le_refl _) _).setCell (Nat.le_refl _) _).setCell (Nat.le_refl _) _⟩
              case rest =>
                obtain ⟨yb, rfl, hyb, hby, rfl, hbc⟩ := hcut
                have hs8 := HS7.out.addX hbc hyb hby.lt
                have HS8 := Lib.hid hs8
                have hx8 := HX7.out.below hbc
                have HBX8 := Lib.hid (HBX7.out.below hbc)
                have HBY8 := Lib.hid hby
                have HB8 := Lib.hid (show Below w.heap.size w wc from HB7'.out.trans (hbc.mono HB7'.out.size))
                have HLS8 := Lib.hid (HLS7.out.keep (hbc.block g2 (HLS7.out.row.lt g2 rfl)))
                have HX8 := Lib.hid hx8
                have k2 : wc.cell? ⟨W0.heap.size, 2, none⟩ = some (.string xk) := hx8.c rfl
                have k3 : wc.cell? ⟨W0.heap.size, 3, none⟩ = some (.string xe) := hx8.c rfl
                clear hs8 hx8 hby hbc HS7 HS7D HX7 HBX7 HB7' HLS7 CP hr7 y2 y4
                go_wp2_with (fail)
                (with_reducible refine (CR.out _ _ HS8.out).mono ?_)
                rintro _ W9 ⟨u, rfl, hs9, b9⟩
                have CE := Lib.hid (St8.addE (A := []) (C := []) hs9 HUL.out)
                have HX9 := Lib.hid (HX8.out.below b9)
                have HBX9 := Lib.hid (HBX8.out.below b9)
                have HBY9 := Lib.hid (HBY8.out.below b9)
                have HB9 := Lib.hid (show Below w.heap.size w W9 from HB8.out.trans (b9.mono HB8.out.size))
                have HLS9 := Lib.hid (HLS8.out.keep (b9.block g2 (HLS8.out.row.lt g2 rfl)))
                clear hs9 b9 HS8 HX8 HBX8 HBY8 HB8 HLS8 k2 k3
                go_wp2_with (fail)
                (with_reducible refine CE.out.mono ?_)
                rintro _ W10 ⟨rfl, hs10, hk10, b10⟩
                have hx10 : OBox W10 W0.heap.size ⟨xf, xa, xl, xc, xws, xk, xe, xq⟩ := (hk10 _ (by simp)).trans HX9.out
                have hbx10 : Boxe W6.heap.size K1 s1 n1 v1 W10 := (hk10 _ (by simp)).trans HBX9.out
                have hby10 : Boxe yb K1 s1 n1 v1 W10 := (hk10 _ (by simp)).trans HBY9.out
                have hls10 := HLS9.out.keep (hk10 g2 (by simp))
                have hbw10 : Below w.heap.size w W10 := HB9.out.trans b10
                have hrdu := hs10.book.read (r := (u, (entsOf (upto xe Q2)).map elOf)) (by simp)
                have c0 := hs10.ref.c0
                have bx0 := hbx10.c0
                have bx1 := hbx10.c1
                have bx2 := hbx10.c2
                have bx3 := hbx10.c3
                have by0 := hby10.c0
                have by1 := hby10.c1
                have by2 := hby10.c2
                have by3 := hby10.c3
                have k2 : W10.cell? ⟨W0.heap.size, 2, none⟩ = some (.string xk) := hx10.c rfl
                have k3 : W10.cell? ⟨W0.heap.size, 3, none⟩ = some (.string xe) := hx10.c rfl
                have c1 := hs10.ref.c1
                have k1 : W10.cell? ⟨W0.heap.size, 1, none⟩ = some (.slice xa xl xc) := hx10.c rfl
                have lr := hs10.ref.lt
                have lo := hx10.lt
                have lx := hbx10.lt
                have ly := hby10.lt
                have hsz := hs10.sizes
                have hlen10 := hs10.mem.len
                have HCL := Lib.hid (show ∀ W, Below W10.heap.size W10 W → W.cell? ⟨r, 0, none⟩ = some (.slice ra (entsOf ns').length rc) ∧ W.cell? ⟨r, 1, none⟩ = some (.int .u64 (la' : Int)) ∧ W.cell? ⟨W0.heap.size, 1, none⟩ = some (.slice xa xl xc) ∧ W.cell? ⟨W0.heap.size, 2, none⟩ = some (.string xk) ∧ W.cell? ⟨W0.heap.size, 3, none⟩ = some (.string xe) ∧ W.cell? ⟨W6.heap.size, 0, none⟩ = some (.string K1) ∧ W.cell? ⟨W6.heap.size, 1, none⟩ = some (.int .u64 s1) ∧ W.cell? ⟨W6.heap.size, 2, none⟩ = some (.int .i64 n1) ∧ W.cell? ⟨W6.heap.size, 3, none⟩ = some (.string v1) ∧ W.cell? ⟨yb, 0, none⟩ = some (.string K1) ∧ W.cell? ⟨yb, 1, none⟩ = some (.int .u64 s1) ∧ W.cell? ⟨yb, 2, none⟩ = some (.int .i64 n1) ∧ W.cell? ⟨yb, 3, none⟩ = some (.string v1) from fun W hb => ⟨(hb.cell (p := ⟨r, 0, none⟩) lr).trans c0, (hb.cell (p := ⟨r, 1, none⟩) lr).trans c1, (hb.cell (p := ⟨W0.heap.size, 1, none⟩) lo).trans k1, (hb.cell (p := ⟨W0.heap.size, 2, none⟩) lo).trans k2, (hb.cell (p := ⟨W0.heap.size, 3, none⟩) lo).trans k3, (hb.cell (p := ⟨W6.heap.size, 0, none⟩) lx).trans bx0, (hb.cell (p := ⟨W6.heap.size, 1, none⟩) lx).trans bx1, (hb.cell (p := ⟨W6.heap.size, 2, none⟩) lx).trans bx2, (hb.cell (p := ⟨W6.heap.size, 3, none⟩) lx).trans bx3, (hb.cell (p := ⟨yb, 0, none⟩) ly).trans by0, (hb.cell (p := ⟨yb, 1, none⟩) ly).trans by1, (hb.cell (p := ⟨yb, 2, none⟩) ly).trans by2, (hb.cell (p := ⟨yb, 3, none⟩) ly).trans by3⟩)
                have C0 := Lib.hid (show ∀ W, Below W10.heap.size W10 W → _ from fun W hb => CRR.out W _ _ _ (hs10.below hb))
                have CQE := Lib.hid (fun W v3 (hb : Below W10.heap.size W10 W) (hrd : Rd W v3 ((entsOf (upto xe Q2)).map elOf).length (cellsEntries ((entsOf (upto xe Q2)).map elOf))) => sameEntries_rd u v3 ((entsOf (upto xe Q2)).map elOf) W (hrdu.below hb) hrd (by have := HUL.out; omega))
                have C1 := fun W (hb : Below W10.heap.size W10 W) => memSize_any (hs10.below hb).mem.tab
                have C2 := fun W (hb : Below W10.heap.size W10 W) => refSize_any (hs10.below hb).ref (by rw [ents_len, hlen10]; omega)
                rw [hsz] at C2
                have C3 := fun W (hb : Below W10.heap.size W10 W) => memLen_any (hs10.below hb).mem.tab
                rw [← ents_len ns'] at C3
                have C4 := Lib.hid (fun W (hb : Below W10.heap.size W10 W) => memLast_any (hs10.below hb).mem.tab)
                have C5 := fun W (hb : Below W10.heap.size W10 W) => staysW_any g2 c2 xa xc xws W (hls10.keep (hb.block g2 (hls10.row.lt g2 rfl))) (by rw [hwl]; have hbw := hbw10.trans (hb.mono hbw10.size); exact (HOK.out.ws.2.2.below hbw).mono hbw.size) (by omega)
                rw [hwl] at C5
                generalize sizeL L' = sz at C1 C2
                have C1 := Lib.hid C1
                have C2 := Lib.hid C2
                have C3 := Lib.hid C3
                have C5 := Lib.hid C5
                have HS10 := Lib.hid hs10
                have HB10 := Lib.hid hbw10
                have HD0 := Lib.hid (show Below W10.heap.size W10 W10.drew from (Below.refl _ _).drew)
                have hKK : (K1.toList == K1.toList) = true := by simp
                have hVV : (v1.toList == v1.toList) = true := by simp
                generalize (entsOf ns').length = ln at HCL C0 C3 c0
                clear hs10 hk10 b10 hx10 hbx10 hby10 hls10 hbw10 hrdu hsz hlen10 lr lo lx ly CE HX9 HBX9 HBY9 HB9 HLS9 CR CRR
                go_upto_region 27 with fail
                go_cut [207] from 143 to 206 (fun bv wx => bv = .bool false ∧ Below W10.heap.size W10 wx)
                case first =>
                  simp only [List.append_eq, List.cons_append, List.nil_append]
                  go_region_held3 (fun w' => w'.cell? ⟨r, 0, none⟩ = some (.slice ra ln rc) ∧ w'.cell? ⟨r, 1, none⟩ = some (.int .u64 (la' : Int)) ∧ w'.cell? ⟨W0.heap.size, 1, none⟩ = some (.slice xa xl xc) ∧ w'.cell? ⟨W0.heap.size, 2, none⟩ = some (.string xk) ∧ w'.cell? ⟨W0.heap.size, 3, none⟩ = some (.string xe) ∧ w'.cell? ⟨W6.heap.size, 0, none⟩ = some (.string K1) ∧ w'.cell? ⟨W6.heap.size, 1, none⟩ = some (.int .u64 s1) ∧ w'.cell? ⟨W6.heap.size, 2, none⟩ = some (.int .i64 n1) ∧ w'.cell? ⟨W6.heap.size, 3, none⟩ = some (.string v1) ∧ w'.cell? ⟨yb, 0, none⟩ = some (.string K1) ∧ w'.cell? ⟨yb, 1, none⟩ = some (.int .u64 s1) ∧ w'.cell? ⟨yb, 2, none⟩ = some (.int .i64 n1) ∧ w'.cell? ⟨yb, 3, none⟩ = some (.string v1)) (first | with_reducible exact HCL.out _ hB14 | with_reducible exact HCL.out _ hB13 | with_reducible exact HCL.out _ hB12 | with_reducible exact HCL.out _ hB11 | with_reducible exact HCL.out _ HD0.out | go_keep) (first
                    | (go_at_call 17; (with_reducible refine (C0.out _ HD0.out).mono ?_); rintro e W11 ⟨v3, rfl, hrd3, b11⟩; have hB11 : Below W10.heap.size W10 W11 := HD0.out.trans b11)
                    | (go_at_call 16; (with_reducible refine (CQE.out _ _ hB11 hrd3).mono ?_); rintro e _ ⟨rfl, nd, rfl⟩; have hB12 : Below W10.heap.size W10 (W11.drewN nd) := belowN hB11 _)
                    | (go_at_call 18; (with_reducible refine (C1.out _ hB12).mono ?_); rintro e _ ⟨rfl, rfl⟩)
                    | (go_at_call 19; (with_reducible refine (C2.out _ hB12).mono ?_); rintro e W13 ⟨rfl, b13⟩; have hB13 : Below W10.heap.size W10 W13 := hB12.trans (b13.mono hB12.size))
                    | (go_at_call 20; (with_reducible refine (C3.out _ hB13).mono ?_); rintro e _ ⟨rfl, rfl⟩)
                    | (go_at_call 21; (with_reducible refine (C4.out _ hB13).mono ?_); rintro e _ ⟨rfl, rfl⟩)
                    | (go_at_call 22; (with_reducible refine (C5.out _ hB13).mono ?_); rintro e W14 ⟨rfl, b14⟩; have hB14 : Below W10.heap.size W10 W14 := hB13.trans (b14.mono hB13.size))
                    | fail)
                  all_goals go_wp2
                  all_goals go_meet
                  all_goals exact ⟨rfl, hB14⟩
                case rest =>
                  obtain ⟨rfl, hbc⟩ := hcut
                  have HSZ := Lib.hid (HS10.out.below hbc)
                  have HBZ := Lib.hid (show Below w.heap.size w wc from HB10.out.trans (hbc.mono HB10.out.size))
                  clear hbc HCL C0 CQE C1 C2 C3 C4 C5 c0 c1 bx0 bx1 bx2 bx3 by0 by1 by2 by3 k1 k2 k3
                  go_wp2
                  go_roundw
                  case rel => exact ⟨j + 1, L', la', ns', dv, _, by go_num, by omega, hL', hla', HSZ.out.drop.forget, HBZ.out⟩
                  case measure => simp [intOf]; omega
          · obtain rfl : j = len2 := by omega
            clear hst hbr
            have CAP := Lib.hid (fun W (h' : St8 w.heap.size q r b ds L la la ns dv rv (entsOf ns) [] [] [] W) => h'.book.apart h'.size)
            go_wp2_with (fail)
            (with_reducible refine (CA.out _).mono ?_)
            rintro _ W1 ⟨rfl, b1⟩
            go_wp2_with (fail)
            (with_reducible refine (CAP.out _ (HS.out.below b1)).mono ?_)
            rintro _ W2 ⟨rfl, b2⟩
            go_wp2
            go_ret
            exact ⟨rfl, (HBR.out.trans (b1.mono HBR.out.size)).trans b2⟩
end Go.Proofs.YthaalhigmihijabGreat
