/- ManiSpoilt's walk. -/
import Derived.Test.YtlecffpjcjlabaaGreatP13I
import Derived.Test.YtlecffpjcjlabaaGreatP13K
import Derived.Test.YtlecffpjcjlabaaGreatP13L
import Derived.Deep.CutBlock
import Derived.Deep.CutRange
namespace Go.Proofs.YtlecffpjcjlabaaGreat
open Go.RowKit Go.Shelf

theorem EdW.ok {w : World} {e : Ed} {va vd : Value} (h : EdW w e va vd) (h1 : e.add.length ≤ 40) (h2 : ∀ t ∈ e.add, t.Short) (h3 : e.drop.length ≤ 60) : e.Ok := ⟨h.l.2, h.n.2, h.s, by omega, by omega, fun t ht => ⟨h.ka t ht, h2 t ht⟩, h.kd⟩
theorem light_putE {e : Ed} (h : e.Ok) (h1 : e.add.length ≤ 40) (h3 : e.drop.length ≤ 60) (hc : canB e = true) : (putE e).length ≤ 723000 := by
  unfold canB at hc
  rw [Bool.and_eq_true, decide_eq_true_iff] at hc
  have := putE_len h hc.1.1 hc.1.2
  omega
/-- What holds as the i-th round begins. -/
def SP (p M i : Nat) (w wr : World) : Prop := ∃ (s : St) (m : Mf) (rs : List (List UInt8)) (es : List Ed), SpoI i s m rs es ∧ MSt w p M (24 + 24 * i) (5000 + 2000000 * i) s m false (fun _ => False) wr
theorem sp_add {p M i : Nat} {w wr : World} {s : St} {m : Mf} {rs : List (List UInt8)} {es : List Ed} (h : SpoI i s m rs es) (hM : MSt w p M (24 + 24 * i) (5000 + 2000000 * i) s m false (fun _ => False) wr) (hi : i < 10)
    (e : Ed) (aa da : Option Addr) (ac dc : Nat) (hE : EdW wr e (.slice aa e.add.length ac) (.slice da e.drop.length dc)) (h1 : e.add.length ≤ 40) (h2 : ∀ t ∈ e.add, t.Short) (h3 : e.drop.length ≤ 60) (hx : e.next ≤ 1000000) :
    Calls Tryz.prog 12 #[.pointer (some ⟨M, 0, none⟩), .agg #[.int .i64 e.log, .int .i64 e.next, .int .u64 (e.seq : Int), .slice aa e.add.length ac, .slice da e.drop.length dc]] wr fun x w' => ∃ er, x = .returned (.int .i64 er) ∧ SP p M (i + 1) w w' := by
  obtain ⟨s', er, m', rs', es', g1, g2⟩ := h.step hi h1 h3 hx
  have hok := hE.ok h1 h2 h3
  have hf := h.few
  have hnl := next_len m.v e
  have hK := next_whole_len h.man.right hok (by omega)
  refine (mst_add hM (by omega) (by omega) h.man.num (.inr h.man.right) (by omega) e aa ac da dc hE.a hE.d hok 723000 (light_putE hok h1 h3) (by omega) (by omega) 990000 (by omega) s' er m' false g1).mono ?_
  rintro x w' ⟨rfl, q1, q2, q3⟩
  exact ⟨er, rfl, s', m', rs', es', g2, q1.up (by omega) (by omega)⟩
set_option maxHeartbeats 8000000 in
set_option maxRecDepth 100000 in
theorem maniSpoilt_hard (a : Option Addr) (len cap : Nat) (l : List EdS) (more name : ByteArray) (w : World) (hI : IsEds w a len l) (hl : len ≤ 10) (hm : more.size ≤ 100) (hn : name.size ≤ 100) :
    Calls Tryz.prog 7 #[.slice a len cap, .string more, .string name] w fun e w' => e = .returned (.bool true) ∧ Below w.heap.size w w' := by
  obtain ⟨s1, p1, p2⟩ := spoI_start
  have d1 : decide (10 < (len : Int)) = false := decide_eq_false (by omega)
  have d1' : decide (10 < len) = false := decide_eq_false (by omega)
  have d2 : decide (100 < (more.size : Int)) = false := decide_eq_false (by omega)
  have d2' : decide (100 < more.size) = false := decide_eq_false (by omega)
  have d3 : decide (100 < (name.size : Int)) = false := decide_eq_false (by omega)
  have d3' : decide (100 < name.size) = false := decide_eq_false (by omega)
  have CA := Lib.hid malive_any
  have C1 := Lib.hid (hs_new 0 (by omega) w)
  have hG : GoodO 4000 (St.new 0) := goodO_new (Nat.le_trans start_len (by decide)) (by decide)
  have C2 := Lib.hid (fun (W : World) (p : Nat) (h : Hs (fun k => k < w.heap.size) w.heap.size p 0 0 (St.new 0) W) (hb : Below w.heap.size w W) => (mst_start hb h (by omega) (by omega) 4000 hG s1 0 ⟨1, vStart⟩ p1 (fun _ => Nat.zero_le _)).mono fun e w' h => start_lit h)
  have HI := Lib.hid hI
  have HP2 := Lib.hid p2
  clear p1 p2 hG hI
  go_enter Tryz.func7, Tryz.ntmps7
  go_wp2_with fail
  go_at_call 10
  (with_reducible refine C1.out.mono ?_)
  rintro _ w1 ⟨p, rfl, h1, b1⟩
  have C2' := Lib.hid (C2.out w1 p h1 b1)
  clear h1 b1 C1 C2
  go_wp2_with fail
  go_at_call 15
  (with_reducible refine C2'.out.mono ?_)
  rintro _ w2 ⟨M, ra, rc, Q2, rfl, q, hr2⟩
  obtain ⟨W3, hW3⟩ : ∃ W3, w2.alloc (.cells #[.int .i64 2, .int .i64 2, .int .u64 0, .slice ra 0 rc] 63) = W3 := ⟨_, rfl⟩
  have HSP := Lib.hid (show SP p M 0 w W3 from ⟨s1, _, _, _, HP2.out, (q.made (show Below w2.heap.size w2 W3 by rw [← hW3]; exact (Below.refl _ _).alloc (Nat.le_refl _) _) (fun _ h => h.elim)).up (by omega) (by omega)⟩)
  have HW3 := Lib.hid hW3
  clear hW3 q hr2 C2'
  go_upto_region 7 with fail
  rw [HW3.out]
  clear HW3
  go_wp2_with fail
  go_loopw [11] (fun iv wr => ∃ i : Nat, iv = .int .i64 (i : Int) ∧ i ≤ len ∧ SP p M i w wr) (fun iv _ => len - (intOf iv).toNat)
  case atStart => exact ⟨0, rfl, Nat.zero_le _, HSP.out⟩
  case round =>
    obtain ⟨i, rfl, hi, hsp⟩ := hrel
    by_cases hlt : i < len
    · obtain ⟨s, m, rs, es, hS, hM⟩ := hsp
      have hil : (i : Int) < (len : Int) := by omega
      obtain ⟨b, off, e, aa, ac, da, dc, rfl, hbl, hE, q0, q1, q2, q3, q4⟩ := HI.out.at hM.bel hlt
      have CL := light_any e _ _ wr hE
      unfold ediV at CL
      have CL := Lib.hid CL
      have hbr : b < wr.heap.size := Nat.lt_of_lt_of_le hbl hM.size
      have HE := Lib.hid hE
      have HM := Lib.hid hM
      have HS := Lib.hid hS
      clear hE hM hS
      go_wp2_with fail
      go_at_call 25
      (with_reducible refine CL.out.mono ?_)
      rintro _ w2 ⟨t, rfl, ht, b2⟩
      have r0 := (b2.cell (p := ⟨b, off + i * 5, none⟩) hbr).trans q0
      have r1 := (b2.cell (p := ⟨b, off + i * 5 + 1, none⟩) hbr).trans q1
      have r2 := (b2.cell (p := ⟨b, off + i * 5 + 2, none⟩) hbr).trans q2
      have r3 := (b2.cell (p := ⟨b, off + i * 5 + 3, none⟩) hbr).trans q3
      have r4 := (b2.cell (p := ⟨b, off + i * 5 + 4, none⟩) hbr).trans q4
      have HB2 := Lib.hid b2
      have HB02 := Lib.hid (HM.out.bel.trans (b2.mono HM.out.size))
      clear q0 q1 q2 q3 q4 CL b2
      cases t with
      | false =>
        go_wp2_with (go_at_call 9; (with_reducible refine (CA.out _).mono ?_); rintro _ w3 ⟨rfl, b3⟩)
        go_ret
        exact ⟨rfl, HB02.out.trans (b3.mono HB02.out.size)⟩
      | true =>
        obtain ⟨l1, l2, l3⟩ := ht rfl
        by_cases hx : e.next ≤ 1000000
        · have dx : decide (1000000 < e.next) = false := decide_eq_false (by omega)
          have C9 := Lib.hid (sp_add HS.out (HM.out.same HB2.out) (by omega) e aa da ac dc (HE.out.below HB2.out) l1 l2 l3 hx)
          clear ht l1 l2 l3
          go_wp2_with (go_at_call 12; (with_reducible refine C9.out.mono ?_); rintro _ w3 ⟨er, rfl, hsp3⟩)
          go_roundw
          case rel => exact ⟨i + 1, by go_num, by omega, hsp3⟩
          case measure => simp [intOf]; omega
        · have dx : decide (1000000 < e.next) = true := decide_eq_true (by omega)
          clear ht l1 l2 l3
          go_wp2_with (go_at_call 9; (with_reducible refine (CA.out _).mono ?_); rintro _ w3 ⟨rfl, b3⟩)
          go_ret
          exact ⟨rfl, HB02.out.trans (b3.mono HB02.out.size)⟩
    · obtain rfl : i = len := by omega
      obtain ⟨s, m, rs, es, hS, hM⟩ := hsp
      have hf := hS.few
      have hnx := hS.next
      have hnum := hS.man.num
      have hm10 : m.v.ts.length ≤ 10000 := by omega
      obtain ⟨sa, sb, j1, j2, j3, j4⟩ := hS.junk hl more.data.toList (by show more.size ≤ 100; exact hm)
      have hup : m.v.up.next = m.v.next + 1 := rfl
      have hr9 := hS.man.right.1
      have CV := Lib.hid (mst_version hM (Below.refl _ _) hm10)
      have HM := Lib.hid hM
      obtain ⟨NM, hNM⟩ : ∃ NM : ByteArray, (⟨(nmM m.num).toArray⟩ : ByteArray) = NM := ⟨_, rfl⟩
      have hNl : NM.data.toList = nmM m.num := by rw [← hNM]
      have hNs : NM.size = 9 := by rw [← hNM]; rfl
      obtain ⟨JB, hJB⟩ : ∃ JB : ByteArray, (⟨#[255, 255, 255, 255]⟩ : ByteArray) ++ more = JB := ⟨_, rfl⟩
      have hJl : JB.data.toList = [255, 255, 255, 255] ++ more.data.toList := by rw [← hJB, ByteArray.data_append, Array.toList_append]
      have hJs : JB.size ≤ 104 := by rw [← hJB, ByteArray.size_append]; show 4 + more.size ≤ 104; omega
      have kc1 : ¬ (9223372036854775807 < (⟨#[255, 255, 255, 255]⟩ : ByteArray).size + more.size) := by show ¬ (9223372036854775807 < 4 + more.size); omega
      have kc2 : (⟨#[255, 255, 255, 255]⟩ : ByteArray).data.size + more.data.size ≤ 9223372036854775807 := by show 4 + more.size ≤ _; omega
      rw [← hNl, ← hJl] at j1
      have HJ := Lib.hid (And.intro j1 (And.intro j2 (And.intro j3 j4)))
      have HN := Lib.hid (And.intro hNM (And.intro hNl hNs))
      clear hM hS j1 j2 j3 j4 hNM hNl
      go_wp2_with fail
      go_at_call 20
      (with_reducible refine CV.out.mono ?_)
      rintro _ w3 ⟨rv, rcv, rfl, hr3, ho3, b3⟩
      obtain ⟨W4, hW4⟩ : ∃ W4, w3.alloc (.cells #[.int .i64 m.v.log, .int .i64 m.v.next, .int .u64 (m.v.seq : Int), .slice rv m.v.ts.length rcv] 63) = W4 := ⟨_, rfl⟩
      have hA : AppS wr m.v w3.heap.size W4 := by rw [← hW4]; exact appS_new b3 hr3 ho3
      obtain ⟨X1, hX1⟩ : ∃ X1, w3.heap.size = X1 := ⟨_, rfl⟩
      rw [hX1] at hA
      have HA := Lib.hid hA
      have HW4 := Lib.hid hW4
      have HX1 := Lib.hid hX1
      clear hW4 hX1 hA hr3 ho3 b3 CV
      go_upto_region 14 with fail
      rw [HW4.out, HX1.out]
      clear HW4
      obtain ⟨ra1, rc1, Q1, hx1, hr1, hq1, hg1, hb1⟩ := HA.out
      have hM4 : MSt w p M (24 + 24 * i) (5000 + 2000000 * i) s m false (fun j => j = X1 ∨ Q1 j) W4 := HM.out.made hb1 fun j hj => by
        rcases hj with hj | hj
        · exact .inr ⟨by omega, by rw [hj]; exact hx1.lt⟩
        · exact .inr ⟨(hq1 j hj).1, (hq1 j hj).2.1⟩
      have CB := Lib.hid (mst_broken hM4)
      have CN := mst_name hM4 (Below.refl _ _) hnum
      rw [HN.out.1] at CN
      have CN := Lib.hid CN
      have CP := Lib.hid (fun W (b : Below W4.heap.size W4 W) => mst_append (hM4.same b) (by omega) NM (by unfold maxLen; omega) JB (by omega) (by omega) HJ.out.1)
      have HX := Lib.hid (And.intro hx1 (And.intro hr1 hq1))
      clear hx1 hr1 hq1 hg1 hb1 hM4 HA HM
      go_wp2_with (first | (go_at_call 23; (with_reducible refine CB.out.mono ?_); rintro _ _ ⟨rfl, rfl⟩) | fail)
      go_at_call 22
      (with_reducible refine CN.out.mono ?_)
      rintro _ w5 ⟨rfl, b5⟩
      have CP5 := Lib.hid (CP.out w5 b5)
      have HX5 := Lib.hid (And.intro (HX.out.1.below b5) (And.intro (HX.out.2.1.kept fun j hj => b5.block j (HX.out.2.2 j hj).2.1) HX.out.2.2))
      clear b5 CP CN CB HX
      go_wp2_with fail
      go_at_call 34
      (with_reducible refine CP5.out.mono ?_)
      rintro _ w6 ⟨rfl, hM6, hb6, hk6⟩
      have hx6 : BoxV X1 m.v.log m.v.next m.v.seq (.slice ra1 m.v.ts.length rc1) w6 := (hk6 X1 (.inl rfl)).trans HX5.out.1
      have hr6 : RowQ Q1 w6 (.slice ra1 m.v.ts.length rc1) m.v.ts := HX5.out.2.1.kept fun j hj => hk6 j (.inr hj)
      have CO := (mst_open hM6 (by omega) (by omega) 300000 HJ.out.2.1 sb 0 ⟨m.v.next.toNat, m.v.up⟩ HJ.out.2.2.1 (fun _ => hm10)).mono fun e w' ⟨g1, g2, _, g4⟩ => And.intro g1 (And.intro g2 (opens_ok g4))
      have CO := Lib.hid (show Calls Tryz.prog 15 #[.pointer (some ⟨p, 0, none⟩)] w6 fun e w' => Below w.heap.size w6 w' ∧ (∀ j, j = X1 ∨ Q1 j → w'.heap[j]? = w6.heap[j]?) ∧ ∃ M' ra rc Q2, e = .returned (.tuple #[.pointer (some ⟨M', 0, none⟩), .agg #[.int .i64 m.v.log, .int .i64 (m.v.next + 1), .int .u64 (m.v.seq : Int), .slice ra m.v.ts.length rc], .int .i64 0]) ∧ MSt w p M' (24 + 24 * i + 1 + 24) (5000 + 2000000 * i + JB.size + 300000 + 9) sb ⟨m.v.next.toNat, m.v.up⟩ false (fun j => (j = X1 ∨ Q1 j) ∨ Q2 j) w' ∧ RowQ Q2 w' (.slice ra m.v.ts.length rc) m.v.ts ∧ ∀ j, Q2 j → w6.heap.size ≤ j from CO)
      have HX6 := Lib.hid (And.intro hx6 (And.intro hr6 hM6.lt))
      clear hM6 hb6 hk6 hx6 hr6 CP5 HX5
      go_wp2_with fail
      go_at_call 15
      (with_reducible refine CO.out.mono ?_)
      rintro _ w7 ⟨hb7, hk7, M2, ra2, rc2, Q2, rfl, hM7, hr7, hq7⟩
      obtain ⟨W8, hW8⟩ : ∃ W8, w7.alloc (.cells #[.int .i64 m.v.log, .int .i64 (m.v.next + 1), .int .u64 (m.v.seq : Int), .slice ra2 m.v.ts.length rc2] 63) = W8 := ⟨_, rfl⟩
      obtain ⟨X2, hX2⟩ : ∃ X2, w7.heap.size = X2 := ⟨_, rfl⟩
      have b8 : Below w7.heap.size w7 W8 := by rw [← hW8]; exact (Below.refl _ _).alloc (Nat.le_refl _) _
      have hs8 : W8.heap.size = X2 + 1 := by rw [← hW8, ← hX2]; simp
      have x8 : BoxV X2 m.v.log (m.v.next + 1) m.v.seq (.slice ra2 m.v.ts.length rc2) W8 := by rw [← hW8, ← hX2]; exact new_block _ _ rfl
      have hM8 : MSt w p M2 (24 + 24 * i + 1 + 24) (5000 + 2000000 * i + JB.size + 300000 + 9) sb ⟨m.v.next.toNat, m.v.up⟩ false (fun j => ((j = X1 ∨ Q1 j) ∨ Q2 j) ∨ j = X2) W8 := hM7.made b8 fun j hj => hj.elim .inl fun e => .inr (by omega)
      have hlt7 := hM7.lt
      have y8 : BoxV X1 m.v.log m.v.next m.v.seq (.slice ra1 m.v.ts.length rc1) W8 := (b8.block X1 (hlt7 X1 (.inl (.inl rfl)))).trans ((hk7 X1 (.inl rfl)).trans HX6.out.1)
      have hr8 : RowQ Q1 W8 (.slice ra1 m.v.ts.length rc1) m.v.ts := (HX6.out.2.1.kept fun j hj => hk7 j (.inr hj)).kept fun j hj => b8.block j (hlt7 j (.inl (.inr hj)))
      have hr8' : RowQ Q2 W8 (.slice ra2 m.v.ts.length rc2) m.v.ts := hr7.kept fun j hj => b8.block j (hlt7 j (.inr hj))
      have hne12 : X1 ≠ X2 := by have := hlt7 X1 (.inl (.inl rfl)); omega
      have hne21 : X2 ≠ X1 := by omega
      have hn1 : ∀ j, Q1 j → j ≠ X2 := fun j hj => by have := hlt7 j (.inl (.inr hj)); omega
      have hn2 : ∀ j, Q2 j → j ≠ X2 := fun j hj => by have := hlt7 j (.inr hj); omega
      have dn : decide (m.v.next + 1 < m.v.next) = false := decide_eq_false (by omega)
      have e0 := x8.c0
      have e1 := x8.c1
      have e2 := x8.c2
      have e3 := x8.c3
      have f1 := x8.f 1
      have g1 := y8.c1
      have HW8 := Lib.hid hW8
      have HX2 := Lib.hid hX2
      have H8 := Lib.hid (And.intro x8 (And.intro y8 (And.intro hr8 (And.intro hr8' (And.intro hM8 (And.intro hn1 hn2))))))
      clear hW8 hX2 b8 hs8 x8 hM8 hlt7 y8 hr8 hr8' hn1 hn2 hb7 hk7 hM7 hr7 hq7 CO HX6
      go_upto_region 17 with fail
      rw [HW8.out, HX2.out]
      clear HW8
      go_upto_region 20 with fail
      obtain ⟨W9, hW9⟩ : ∃ W9, W8.setCell ⟨X2, 1, none⟩ (.int .i64 m.v.next) = W9 := ⟨_, rfl⟩
      obtain ⟨x8, y8, hr8, hr8', hM8, hn1, hn2⟩ := H8.out
      have hk9 : ∀ j, j ≠ X2 → W9.heap[j]? = W8.heap[j]? := fun j hj => by rw [← hW9]; exact set_block _ _ _ _ _ hj
      have hs9 : W9.heap.size = W8.heap.size := by rw [← hW9]; simp
      have x9 : BoxV X2 m.v.log m.v.next m.v.seq (.slice ra2 m.v.ts.length rc2) W9 := by rw [← hW9]; exact heap_setCell_same _ X2 1 _ _ _ x8
      have y9 : BoxV X1 m.v.log m.v.next m.v.seq (.slice ra1 m.v.ts.length rc1) W9 := (hk9 X1 hne12).trans y8
      have hv1 : TbsV W9 (.slice ra1 m.v.ts.length rc1) m.v.ts := (hr8.kept fun j hj => hk9 j (hn1 j hj)).row.v
      have hv2 : TbsV W9 (.slice ra2 m.v.ts.length rc2) m.v.ts := (hr8'.kept fun j hj => hk9 j (hn2 j hj)).row.v
      have hM9 : MSt w p M2 (24 + 24 * i + 1 + 24) (5000 + 2000000 * i + JB.size + 300000 + 9) sb ⟨m.v.next.toNat, m.v.up⟩ false (fun j => ((j = X1 ∨ Q1 j) ∨ Q2 j) ∨ j = X2) W9 := hM8.wrote hs9 (by rw [← hW9]; exact hM8.bel.setCell (p := ⟨X2, 1, none⟩) (hM8.fx X2 (.inr rfl)) _) fun j hj => hk9 j fun e => hj (.inr e)
      have HQ := Lib.hid (show ∀ W', Below W9.heap.size W9 W' → W'.cell? ⟨X2, 0, none⟩ = some (.int .i64 m.v.log) ∧ W'.cell? ⟨X2, 1, none⟩ = some (.int .i64 m.v.next) ∧ W'.cell? ⟨X2, 2, none⟩ = some (.int .u64 (m.v.seq : Int)) ∧ W'.cell? ⟨X2, 3, none⟩ = some (.slice ra2 m.v.ts.length rc2) ∧ W'.cell? ⟨X1, 0, none⟩ = some (.int .i64 m.v.log) ∧ W'.cell? ⟨X1, 1, none⟩ = some (.int .i64 m.v.next) ∧ W'.cell? ⟨X1, 2, none⟩ = some (.int .u64 (m.v.seq : Int)) ∧ W'.cell? ⟨X1, 3, none⟩ = some (.slice ra1 m.v.ts.length rc1) from fun W' hb => by
        have x' := x9.below hb
        have y' := y9.below hb
        exact ⟨x'.c0, x'.c1, x'.c2, x'.c3, y'.c0, y'.c1, y'.c2, y'.c3⟩)
      have HSV := Lib.hid (fun (W' : World) (hb : Below W9.heap.size W9 W') => sameV_yes m.v.log m.v.next m.v.seq (.slice ra2 m.v.ts.length rc2) (.slice ra1 m.v.ts.length rc1) m.v.ts W' (hv2.below hb) (hv1.below hb) (by omega))
      obtain ⟨c0, c1, c2, c3, c4, c5, c6, c7⟩ := HQ.out W9 (Below.refl _ _)
      have H9 := Lib.hid hM9
      have HW9 := Lib.hid hW9
      clear hW9 x8 y8 hr8 hr8' hM8 hn1 hn2 hk9 hs9 x9 y9 hv1 hv2 hM9 e0 e1 e2 e3 f1 g1 dn
      rw [HW9.out]
      go_region_held3 (fun W' => W'.cell? ⟨X2, 0, none⟩ = some (.int .i64 m.v.log) ∧ W'.cell? ⟨X2, 1, none⟩ = some (.int .i64 m.v.next) ∧ W'.cell? ⟨X2, 2, none⟩ = some (.int .u64 (m.v.seq : Int)) ∧ W'.cell? ⟨X2, 3, none⟩ = some (.slice ra2 m.v.ts.length rc2) ∧ W'.cell? ⟨X1, 0, none⟩ = some (.int .i64 m.v.log) ∧ W'.cell? ⟨X1, 1, none⟩ = some (.int .i64 m.v.next) ∧ W'.cell? ⟨X1, 2, none⟩ = some (.int .u64 (m.v.seq : Int)) ∧ W'.cell? ⟨X1, 3, none⟩ = some (.slice ra1 m.v.ts.length rc1))
        (first | (go_keep; done) | exact HQ.out _ (Below.refl _ _).drew | exact HQ.out _ BA | exact HQ.out _ BB | fail)
        (first
          | (go_at_call 31; (with_reducible refine (plainV_any _ _ _ _ _ _ _).mono ?_); rintro _ wa ⟨rfl, ba⟩; have BA : Below W9.heap.size W9 wa := (Below.refl _ _).drew.trans ba)
          | (go_at_call 17; (with_reducible refine (HSV.out wa BA).mono ?_); rintro _ wb ⟨rfl, bb⟩; have BB : Below W9.heap.size W9 wb := BA.trans (bb.mono BA.size))
          | fail)
      obtain ⟨s3, s4, s5, s6, s7, er, m6, k1, k2, k3, k4, k5, k6, k7, k8, k9⟩ := HJ.out.2.2.2.cur (by omega) name.data.toList (by show name.size ≤ 100; exact hn)
      have hM10 := H9.out.same BB
      have C1 := Lib.hid (mst_remove hM10 (by omega) (⟨#[67, 85, 82, 82, 69, 78, 84]⟩ : ByteArray) (by unfold maxLen; decide) (show sb.remove _ = (s3, 0) from k1))
      have K2 := Lib.hid (show s3.create (⟨#[67, 85, 82, 82, 69, 78, 84]⟩ : ByteArray).data.toList = (s4, 0) from k2)
      have K3 := Lib.hid (show s4.append (⟨#[67, 85, 82, 82, 69, 78, 84]⟩ : ByteArray).data.toList name.data.toList = (s5, 0) from k3)
      have K4 := Lib.hid (And.intro k4 (And.intro k5 (And.intro k6 (And.intro k7 (And.intro k8 k9)))))
      clear k1 k2 k3 k4 k5 k6 k7 k8 k9 hM10 ba bb BA BB HQ HSV c0 c1 c2 c3 c4 c5 c6 c7
      go_wp2_with fail
      go_at_call 35
      (with_reducible refine C1.out.mono ?_)
      rintro _ w11 ⟨rfl, hM11, -, -⟩
      have C2 := Lib.hid (mst_create hM11 (by omega) (⟨#[67, 85, 82, 82, 69, 78, 84]⟩ : ByteArray) (by unfold maxLen; decide) K2.out)
      clear hM11 C1
      go_wp2_with fail
      go_at_call 36
      (with_reducible refine C2.out.mono ?_)
      rintro _ w12 ⟨rfl, hM12, -, -⟩
      have C3 := Lib.hid (mst_append hM12 (by omega) (⟨#[67, 85, 82, 82, 69, 78, 84]⟩ : ByteArray) (by unfold maxLen; decide) name (by omega) (by omega) K3.out)
      clear hM12 C2
      go_wp2_with fail
      go_at_call 34
      (with_reducible refine C3.out.mono ?_)
      rintro _ w13 ⟨rfl, hM13, -, -⟩
      have C4 := Lib.hid (mst_open_weak hM13 (by omega) (by omega) 300000 K4.out.1 er m6 K4.out.2.1 K4.out.2.2.2.2.1)
      clear hM13 C3
      go_wp2_with fail
      go_at_call 15
      (with_reducible refine C4.out.mono ?_)
      rintro _ w14 ⟨pv, x0, x1, x2, xa, xn, xc, rfl, hM14, -, -⟩
      obtain ⟨W15, hW15⟩ : ∃ W15, w14.alloc (.cells #[.int .i64 x0, .int .i64 x1, .int .u64 x2, .slice xa xn xc] 63) = W15 := ⟨_, rfl⟩
      have C5 := Lib.hid (mst_open_weak (hM14.same (show Below w14.heap.size w14 W15 by rw [← hW15]; exact (Below.refl _ _).alloc (Nat.le_refl _) _)) (by omega) (by omega) 300000 K4.out.2.2.1 er m6 K4.out.2.2.2.1 K4.out.2.2.2.2.1)
      have HW15 := Lib.hid hW15
      clear hW15 hM14 C4
      go_upto_region 25 with fail
      rw [HW15.out]
      clear HW15
      go_wp2_with fail
      go_at_call 15
      (with_reducible refine C5.out.mono ?_)
      rintro _ w16 ⟨pv', y0, y1, y2, ya, yn, yc, rfl, hM16, -, -⟩
      obtain ⟨W17, hW17⟩ : ∃ W17, w16.alloc (.cells #[.int .i64 y0, .int .i64 y1, .int .u64 y2, .slice ya yn yc] 63) = W17 := ⟨_, rfl⟩
      have hM17 := hM16.same (show Below w16.heap.size w16 W17 by rw [← hW17]; exact (Below.refl _ _).alloc (Nat.le_refl _) _)
      obtain ⟨N2, hN2⟩ : ∃ N2, (⟨(nmM m.v.next.toNat).toArray⟩ : ByteArray) = N2 := ⟨_, rfl⟩
      have C6 := fun W (b : Below W17.heap.size W17 W) => mst_name hM17 b (show m.v.next.toNat < 100000000 by omega)
      rw [hN2] at C6
      have C6 := Lib.hid C6
      have HB17 := Lib.hid hM17.bel
      have HW17 := Lib.hid hW17
      have HN2 := Lib.hid hN2
      clear hW17 hM16 hM17 C5 hN2
      go_upto_region 26 with fail
      rw [HW17.out]
      clear HW17
      by_cases hq : name = N2
      · have dq : (name.toList == N2.toList) = true := by rw [hq]; simp
        go_wp2_with fail
        go_at_call 9
        (with_reducible refine (CA.out _).mono ?_)
        rintro _ w18 ⟨rfl, b18⟩
        have HB18 := Lib.hid b18
        have C7 := Lib.hid (C6.out w18 b18)
        clear b18
        go_wp2_with fail
        go_at_call 22
        (with_reducible refine C7.out.mono ?_)
        rintro _ w19 ⟨rfl, b19⟩
        have hend := HB17.out.trans ((HB18.out.trans (b19.mono HB18.out.size)).mono HB17.out.size)
        clear b19
        go_wp2_with fail
        go_ret
        exact ⟨rfl, hend⟩
      · have dq : (name.toList == N2.toList) = false := by
          rw [toList_data, toList_data]
          exact beq_false_of_ne fun e => hq (by cases name; cases N2; congr 1; exact Array.toList_inj.1 e)
        have he15 : er = 15 := K4.out.2.2.2.2.2 fun e => hq (by rw [← HN2.out]; show name = ⟨(nmM m.v.next.toNat).toArray⟩; rw [← show name.data.toList = nmM m.v.next.toNat from e])
        subst he15
        go_wp2_with fail
        go_at_call 9
        (with_reducible refine (CA.out _).mono ?_)
        rintro _ w18 ⟨rfl, b18⟩
        have HB18 := Lib.hid b18
        have C7 := Lib.hid (C6.out w18 b18)
        clear b18
        go_wp2_with fail
        go_at_call 22
        (with_reducible refine C7.out.mono ?_)
        rintro _ w19 ⟨rfl, b19⟩
        have hend := HB17.out.trans ((HB18.out.trans (b19.mono HB18.out.size)).mono HB17.out.size)
        clear b19
        go_wp2_with fail
        go_ret
        exact ⟨rfl, hend⟩
set_option maxHeartbeats 4000000 in
set_option maxRecDepth 100000 in
theorem maniSpoilt_walk (a : Option Addr) (len cap : Nat) (l : List EdS) (more : ByteArray) (hm : more.size ≤ maxLen) (name : ByteArray) (hn : name.size ≤ maxLen) (w : World) (hI : IsEds w a len l) :
    Calls Tryz.prog 7 #[.slice a len cap, .string more, .string name] w fun e w' => e = .returned (.bool true) ∧ Below w.heap.size w w' := by
  have CA := Lib.hid malive_any
  have hlm := hI.1
  unfold maxLen at hm hn hlm
  by_cases h1 : len ≤ 10
  · by_cases h2 : more.size ≤ 100
    · by_cases h3 : name.size ≤ 100
      · exact maniSpoilt_hard a len cap l more name w hI h1 h2 h3
      · have d1 : decide (10 < (len : Int)) = false := decide_eq_false (by omega)
        have d1' : decide (10 < len) = false := decide_eq_false (by omega)
        have d2 : decide (100 < (more.size : Int)) = false := decide_eq_false (by omega)
        have d2' : decide (100 < more.size) = false := decide_eq_false (by omega)
        have d3 : decide (100 < (name.size : Int)) = true := decide_eq_true (by omega)
        have d3' : decide (100 < name.size) = true := decide_eq_true (by omega)
        clear hI
        go_enter Tryz.func7, Tryz.ntmps7
        go_wp2_with (go_at_call 9; (with_reducible refine (CA.out _).mono ?_); rintro _ w3 ⟨rfl, b3⟩)
        go_ret
        exact ⟨rfl, b3⟩
    · have d1 : decide (10 < (len : Int)) = false := decide_eq_false (by omega)
      have d1' : decide (10 < len) = false := decide_eq_false (by omega)
      have d2 : decide (100 < (more.size : Int)) = true := decide_eq_true (by omega)
      have d2' : decide (100 < more.size) = true := decide_eq_true (by omega)
      clear hI
      go_enter Tryz.func7, Tryz.ntmps7
      go_wp2_with (go_at_call 9; (with_reducible refine (CA.out _).mono ?_); rintro _ w3 ⟨rfl, b3⟩)
      go_ret
      exact ⟨rfl, b3⟩
  · have d1 : decide (10 < (len : Int)) = true := decide_eq_true (by omega)
    have d1' : decide (10 < len) = true := decide_eq_true (by omega)
    clear hI
    go_enter Tryz.func7, Tryz.ntmps7
    go_wp2_with (go_at_call 9; (with_reducible refine (CA.out _).mono ?_); rintro _ w3 ⟨rfl, b3⟩)
    go_ret
    exact ⟨rfl, b3⟩
end Go.Proofs.YtlecffpjcjlabaaGreat
