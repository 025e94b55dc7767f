/- Joined: US UG UH. -/
import Derived.Test.YtmnboiikopkaoaaGreatUA
import Derived.Test.YtmnboiikopkaoaaGreatLCheap11W
import Derived.Test.YtmnboiikopkaoaaGreatVG6
import Derived.Deep.DeepCutAuto
import Derived.Deep.CutBlock
import Derived.Deep.CutRange
namespace Go.Proofs.YtmnboiikopkaoaaGreat
open Go.RowKit

section
variable {w : World} {p : Nat} {F : List Nat} {q : Rdb}
set_option maxHeartbeats 1000000 in
/-- The function that start hands on. -/
theorem startF_any (h : RdAt w p F q) (i : Nat) (hil : i ≤ 1000000) (X Y : Nat) (key : ByteArray) (hx : w.cell? ⟨X, 0, none⟩ = some (.pointer (some ⟨p, 0, none⟩))) (hy : w.cell? ⟨Y, 0, none⟩ = some (.string key)) :
    Calls Tryz.prog 67 #[.int .i64 (i : Int), .pointer (some ⟨X, 0, none⟩), .pointer (some ⟨Y, 0, none⟩)] w fun e w' => e = .returned (.bool (!(lessB (mostK q i) key))) ∧ Below w.heap.size w w' := by
  have CM := Lib.hid (fun n => rmost_any (w := w.drewN n) (h.kept (w' := w.drewN n) fun _ _ => rfl) i hil)
  have HL := Lib.hid (less_T (mostK q i) key)
  generalize mostK q i = K at *
  clear h
  go_enter Tryz.func67, Tryz.ntmps67
  go_wp2
  go_quiet ((go_at_call 68; exact quietH (CM.out _)))
  go_wp2
  go_ret
  exact ⟨by rw [← HL.out]; rfl, belowN (Below.refl _ _) _⟩
set_option maxHeartbeats 2000000 in
theorem search_any (h : RdAt w p F q) (hl : q.ps.length ≤ 1000000) (X Y : Nat) (key : ByteArray) (hx : w.cell? ⟨X, 0, none⟩ = some (.pointer (some ⟨p, 0, none⟩))) (hy : w.cell? ⟨Y, 0, none⟩ = some (.string key)) :
    Calls Tryz.prog 66 #[.int .i64 (q.ps.length : Int), .func (.func 67) #[] #[.pointer (some ⟨X, 0, none⟩), .pointer (some ⟨Y, 0, none⟩)]] w fun e w' => ∃ k : Nat, e = .returned (.int .i64 (k : Int)) ∧ Hid (Starts q key k) ∧ Below w.heap.size w w' := by
  have hfn : ∀ (args : Array Value) (w : World), (callFunc 67 args).run Tryz.prog w = .ok (.enter 67 args) w := fun args w => by kernel_rfl
  have HC := Lib.hid (show ∀ W, Below w.heap.size w W → ∀ i : Nat, i ≤ 1000000 → Calls Tryz.prog 67 #[.int .i64 (i : Int), .pointer (some ⟨X, 0, none⟩), .pointer (some ⟨Y, 0, none⟩)] W fun e w' => e = .returned (.bool (!(lessB (mostK q i) key))) ∧ Below W.heap.size W w' from fun W hb i hi =>
    startF_any (h.below hb) i hi X Y key ((hb.cell (World.block_lt_of_cell? w _ hx)).trans hx) ((hb.cell (World.block_lt_of_cell? w _ hy)).trans hy))
  unfold Starts
  generalize hN : q.ps.length = N at *
  clear h hx hy hN
  go_enter Tryz.func66, Tryz.ntmps66
  go_wp2
  go_loopw [5, 6] (fun iv jv wr => ∃ lo hi : Nat, iv = .int .i64 (lo : Int) ∧ jv = .int .i64 (hi : Int) ∧ lo ≤ hi ∧ hi ≤ N ∧ Hid ((hi < N → lessB (mostK q hi) key = false) ∧ (0 < lo → lessB (mostK q (lo - 1)) key = true)) ∧ Below w.heap.size w wr) (fun iv jv _ => (intOf jv - intOf iv).toNat)
  case atStart => exact ⟨0, N, rfl, rfl, Nat.zero_le _, Nat.le_refl _, Lib.hid ⟨fun h => absurd h (Nat.lt_irrefl _), fun h => absurd h (Nat.lt_irrefl _)⟩, Below.refl _ _⟩
  case round =>
    obtain ⟨lo, hi, rfl, rfl, hlh, hin, HI, hbl⟩ := hrel
    have HBL := Lib.hid hbl
    by_cases hlt : lo < hi
    · obtain ⟨m, hm⟩ : ∃ m, (lo + hi) / 2 = m := ⟨_, rfl⟩
      have CF := Lib.hid (HC.out wr hbl m (by omega))
      have e1 : ((lo : Int) + (hi : Int)) / 2 = (m : Int) := by omega
      have hml : lo ≤ m ∧ m < hi := by omega
      have d1 : decide ((lo : Int) < (hi : Int)) = true := by simp; omega
      have hmI : (m : Int) + 1 ≤ 1000000 := by omega
      clear hbl hm
      cases hq : lessB (mostK q m) key with
      | true =>
        rw [hq] at CF
        have HQ := Lib.hid hq
        clear hq
        go_wp2_with (go_at_call 67; (try rw [e1]); (with_reducible refine CF.out.mono ?_); rintro _ w2 ⟨rfl, b2⟩)
        go_roundw
        case rel => exact ⟨m + 1, hi, by go_num, rfl, by omega, hin, Lib.hid ⟨HI.out.1, fun _ => HQ.out⟩, HBL.out.trans (b2.mono HBL.out.size)⟩
        case measure => simp [intOf]; omega
      | false =>
        rw [hq] at CF
        have HQ := Lib.hid hq
        clear hq
        go_wp2_with (go_at_call 67; (try rw [e1]); (with_reducible refine CF.out.mono ?_); rintro _ w2 ⟨rfl, b2⟩)
        go_roundw
        case rel => exact ⟨lo, m, rfl, by go_num, by omega, by omega, Lib.hid ⟨fun _ => HQ.out, HI.out.2⟩, HBL.out.trans (b2.mono HBL.out.size)⟩
        case measure => simp [intOf]; omega
    · obtain rfl : lo = hi := by omega
      go_wp2
      go_ret
      exact ⟨lo, rfl, Lib.hid ⟨hin, HI.out.1, HI.out.2⟩, HBL.out⟩
set_option maxHeartbeats 2000000 in
theorem start_any (h : RdAt w p F q) (hl : q.ps.length ≤ 1000000) (key : ByteArray) :
    Calls Tryz.prog 33 #[.pointer (some ⟨p, 0, none⟩), .string key] w fun e w' => ∃ k : Nat, e = .returned (.int .i64 (k : Int)) ∧ Hid (Starts q key k) ∧ Below w.heap.size w w' := by
  obtain ⟨W, hW⟩ : ∃ W, (w.alloc (.cells #[.pointer (some ⟨p, 0, none⟩)] 33)).alloc (.cells #[.string key] 9) = W := ⟨_, rfl⟩
  have hB : Below w.heap.size w W := by rw [← hW]; exact ((Below.refl _ _).alloc (Nat.le_refl _) _).alloc (by simp) _
  have cx : W.cell? ⟨w.heap.size, 0, none⟩ = some (.pointer (some ⟨p, 0, none⟩)) := by rw [← hW]; exact oce (by simp) (nce rfl rfl)
  have cy : W.cell? ⟨w.heap.size + 1, 0, none⟩ = some (.string key) := by rw [← hW]; exact nce (by simp) rfl
  obtain ⟨a, cap, c0, -⟩ := (h.below hB).parts
  have CS := Lib.hid (search_any (h.below hB) hl w.heap.size (w.heap.size + 1) key cx cy)
  clear h hl
  go_enter Tryz.func33, Tryz.ntmps33
  go_upto_region 1 with fail
  try rw [hW]
  clear hW
  go_wp2_with (go_at_call 66; (with_reducible refine CS.out.mono ?_); rintro _ w2 ⟨k, rfl, hk, b2⟩)
  go_ret
  exact ⟨k, rfl, hk, hB.trans (b2.mono hB.size)⟩
end
end Go.Proofs.YtmnboiikopkaoaaGreat

namespace Go.Proofs.YtmnboiikopkaoaaGreat
open Go.RowKit

/-- What Get answers. -/
def gotV : Nat × Int × Option Ent → Value
  | (_, e, some x) => .tuple #[.agg #[.string x.k, .int .u64 x.s, .int .i64 x.n, .string x.v], .bool true, .int .i64 e]
  | (_, e, none) => .tuple #[.agg #[.string ⟨#[]⟩, .int .u64 0, .int .i64 0, .string ⟨#[]⟩], .bool false, .int .i64 e]
/-- What Get tells of blocks from the k-th on, where j of them were read already. -/
def GoneG (key : ByteArray) (seq : Nat) (ps : List Prt) (k i j : Nat) : Prop := goG key seq (ps.drop k) = (j + (goG key seq (ps.drop i)).1, (goG key seq (ps.drop i)).2)
theorem leq_two (a b : ByteArray) : (lessB b a = false ∧ ((Op.bytesLess a.toList b.toList = true) ∨ (Op.bytesLess a.toList b.toList = false ∧ (a.toList == b.toList) = true))) ∨ (lessB b a = true ∧ Op.bytesLess a.toList b.toList = false ∧ (a.toList == b.toList) = false) := by
  rcases less_threeT a b with ⟨h1, h2⟩ | ⟨h1, h2⟩ | ⟨h1, h2, h3⟩
  · exact .inl ⟨h2, .inl h1⟩
  · subst h1
    refine .inl ⟨h2, .inr ⟨?_, by simp⟩⟩
    rw [less_T]; exact h2
  · exact .inr ⟨h3, h1, h2⟩
section
variable {w : World} {p : Nat} {F : List Nat} {q : Rdb}
theorem Turn.boxe {F : List Nat} {a b : World} {B : Nat} {k : ByteArray} {s n : Int} {v : ByteArray} (h : Turn F a b) (hx : Boxe B k s n v a) (hF : B ∉ F) : Boxe B k s n v b := (h.block B hx.lt hF).trans hx
/-- A version stored into a box. -/
theorem set4_turn {F : List Nat} {a b : World} {B : Nat} {v0 v1 v2 v3 : Value} (h : Turn F a b) (hB : a.heap.size ≤ B) : Turn F a ((((b.setCell ⟨B, 0, none⟩ v0).setCell ⟨B, 1, none⟩ v1).setCell ⟨B, 2, none⟩ v2).setCell ⟨B, 3, none⟩ v3) :=
  (((h.setCell (.inr hB) _).setCell (.inr hB) _).setCell (.inr hB) _).setCell (.inr hB) _
theorem set4_rd {b : World} {B : Nat} {v0 v1 v2 v3 : Value} (h : RdAt b p F q) (hF : ∀ k ∈ F, k ≠ B) : RdAt ((((b.setCell ⟨B, 0, none⟩ v0).setCell ⟨B, 1, none⟩ v1).setCell ⟨B, 2, none⟩ v2).setCell ⟨B, 3, none⟩ v3) p F q :=
  h.kept fun k hk => (heap_setCell_other _ ⟨B, 3, none⟩ k _ (hF k hk)).trans ((heap_setCell_other _ ⟨B, 2, none⟩ k _ (hF k hk)).trans ((heap_setCell_other _ ⟨B, 1, none⟩ k _ (hF k hk)).trans (heap_setCell_other _ ⟨B, 0, none⟩ k _ (hF k hk))))
theorem getE_small2 (b : List UInt8) : ∀ x ∈ (getE b).2, x.k.size ≤ 300 ∧ x.v.size ≤ 60000 := by
  rcases hg : getE b with ⟨e, l⟩
  by_cases he : e = 0
  · subst he
    obtain ⟨ho, hb⟩ := getE_ok hg
    intro x hx
    obtain ⟨i, hi, rfl⟩ := List.getElem_of_mem hx
    have := (ordB_at ho hi).1
    rw [entAt_get hi] at this
    exact ⟨(valid_parts this).1, (valid_parts this).2.1⟩
  · have := getE_few hg he
    subst this
    exact fun x hx => by cases hx
theorem pickUV_yes (l : List Ent) {z : Int} (h : 0 ≤ z) : pickUV l z = .agg #[.string (entAt l z.toNat).k, .int .u64 (entAt l z.toNat).s, .int .i64 (entAt l z.toNat).n, .string (entAt l z.toNat).v] := by
  unfold pickUV
  rw [if_pos h, List.getD_eq_getElem?_getD]
  rfl
theorem pickUV_no (l : List Ent) {z : Int} (h : ¬ 0 ≤ z) : pickUV l z = .agg #[.string ⟨#[]⟩, .int .u64 0, .int .i64 0, .string ⟨#[]⟩] := by
  unfold pickUV
  rw [if_neg h]
  rfl
theorem goG_cons (key : ByteArray) (seq : Nat) (x : Prt) (r : List Prt) : goG key seq (x :: r) =
    if lessB key x.f = true then (0, 0, none)
    else if (getE x.b.data.toList).1 ≠ 0 then (1, (getE x.b.data.toList).1, none)
    else if 0 ≤ best (getE x.b.data.toList).2 key seq (getE x.b.data.toList).2.length then (1, 0, some (entAt (getE x.b.data.toList).2 (best (getE x.b.data.toList).2 key seq (getE x.b.data.toList).2.length).toNat))
    else ((goG key seq r).1 + 1, (goG key seq r).2) := rfl
theorem drop_cons' {ps : List Prt} {i : Nat} (h : i < ps.length) : ps.drop i = ps[i] :: ps.drop (i + 1) := List.drop_eq_getElem_cons h
set_option maxHeartbeats 8000000 in
set_option maxRecDepth 100000 in
theorem rget_any (h : RdAt w p F q) (h0 : q.ps ≠ []) (hl : q.ps.length ≤ 100000) (hbs : ∀ x ∈ q.ps, x.b.size ≤ 100000) (hfl : q.fil.size ≤ 1000000) (hn : q.n ≤ 1000000000) (key : ByteArray) (hk : key.size ≤ 9223372036854775807) (seq : Nat) :
    Calls Tryz.prog 20 #[.pointer (some ⟨p, 0, none⟩), .string key, .int .u64 (seq : Int)] w fun e w' =>
      (mayB q.fil.data.toList key.data.toList = false ∧ e = .returned (gotV (0, 0, none)) ∧ RdAt w' p F q ∧ Turn [p] w w') ∨
      (mayB q.fil.data.toList key.data.toList = true ∧ ∃ k, Starts q key k ∧ e = .returned (gotV (goG key seq (q.ps.drop k))) ∧ RdAt w' p F { q with n := q.n + (goG key seq (q.ps.drop k)).1 } ∧ Turn [p] w w') := by
  have hp := h.plt
  have hFl := h.lt
  obtain ⟨W, hW⟩ : ∃ W, w.alloc (.cells #[.string ⟨#[]⟩, .int .u64 0, .int .i64 0, .string ⟨#[]⟩] 48) = W := ⟨_, rfl⟩
  have hB : Below w.heap.size w W := by rw [← hW]; exact (Below.refl _ _).alloc (Nat.le_refl _) _
  have xW : Boxe w.heap.size ⟨#[]⟩ 0 0 ⟨#[]⟩ W := by rw [← hW]; exact new_block _ _ rfl
  have hW0 := h.below hB
  have C1 := Lib.hid (isNone_no hW0 h0)
  obtain ⟨V, -, -, -, c3, -⟩ := hW0.cells
  have C2 := Lib.hid (may_any q.fil key W hfl hk)
  obtain ⟨B, hBe⟩ : ∃ B, w.heap.size = B := ⟨_, rfl⟩
  have HXW := Lib.hid xW
  have HBW := Lib.hid hB
  have HRW := Lib.hid hW0
  have HBS := Lib.hid hbs
  have HBE := Lib.hid hBe
  have HFN := Lib.hid (show ∀ k ∈ F, k ≠ B from fun k hk e => by have := hFl k hk; omega)
  have HPB := Lib.hid (show B ∉ [p] by simp; omega)
  rw [hBe] at HXW
  clear h xW hB hW0 h0 hbs hBe hFl
  go_enter Tryz.func20, Tryz.ntmps20
  go_upto_region 1 with fail
  try rw [hW]
  try rw [HBE.out]
  clear hW
  go_wp2_with (go_at_call 31; (with_reducible refine C1.out.mono ?_); rintro _ w1 ⟨rfl, rfl⟩)
  go_at_call 55
  refine C2.out.mono ?_
  rintro _ w2 ⟨rfl, b2⟩
  have HB2 := Lib.hid (HBW.out.trans (b2.mono HBW.out.size))
  have HR2 := Lib.hid (HRW.out.below b2)
  have HX2 := Lib.hid (HXW.out.below b2)
  clear C1 C2 HXW HBW HRW b2 c3
  cases hm : mayB q.fil.data.toList key.data.toList with
  | false =>
    have x2 := HX2.out
    have c0 := x2.c0
    have c1 := x2.c1
    have c2 := x2.c2
    have c3 := x2.c3
    have f0 := x2.f 0
    have f1 := x2.f 1
    have f2 := x2.f 2
    have f3 := x2.f 3
    clear x2
    go_wp2
    refine bodyPost_ret (by simp [results, Tryz.results20, go_sem, c0, c1, c2, c3]; try rfl) rfl ?_
    exact .inl ⟨hm, rfl, set4_rd HR2.out HFN.out, set4_turn (turn_of_below HB2.out) (by rw [HBE.out]; exact Nat.le_refl _)⟩
  | true =>
    have CS := Lib.hid (start_any HR2.out (by omega) key)
    go_wp2_with fail
    go_at_call 33
    refine CS.out.mono ?_
    rintro _ w3 ⟨k, rfl, HST, b3⟩
    have HB3 := Lib.hid (HB2.out.trans (b3.mono HB2.out.size))
    have HR3 := Lib.hid (HR2.out.below b3)
    have HX3 := Lib.hid (HX2.out.below b3)
    have hkl := HST.out.1
    clear CS HR2 HX2 HB2 b3
    go_wp2_with fail
    go_loopw [9] (fun iv wr => ∃ i j : Nat, iv = .int .i64 (i : Int) ∧ k ≤ i ∧ i ≤ q.ps.length ∧ j ≤ i ∧ RdAt wr p F { q with n := q.n + j } ∧ Boxe B ⟨#[]⟩ 0 0 ⟨#[]⟩ wr ∧ Turn [p] w wr ∧ Hid (GoneG key seq q.ps k i j)) (fun iv _ => q.ps.length - (intOf iv).toNat)
    case atStart => exact ⟨k, 0, rfl, Nat.le_refl _, hkl, Nat.zero_le _, HR3.out, HX3.out, turn_of_below HB3.out, Lib.hid (by unfold GoneG; rw [Nat.zero_add])⟩
    case round =>
      obtain ⟨i, j, rfl, hki, hil, hji, hr, hx, ht, HG⟩ := hrel
      have HR := Lib.hid hr
      have HX := Lib.hid hx
      have HT := Lib.hid ht
      have HLE := Lib.hid (show w.heap.size ≤ B by rw [HBE.out]; exact Nat.le_refl _)
      obtain ⟨a, cap, c0, hc⟩ := hr.parts
      simp only at c0 hc
      clear HR3 HX3 HB3
      by_cases hlt : i < q.ps.length
      · obtain ⟨g, rfl, hg, d0, -⟩ := hc i hlt
        have hiI : (i : Int) < (q.ps.length : Int) := by omega
        have HD := Lib.hid (drop_cons' hlt)
        have CR := Lib.hid (rblock_any (q := { q with n := q.n + j }) hr i hlt (HBS.out _ (List.getElem_mem hlt)) (by simp only; omega) (by simp only; omega))
        simp only at CR
        have HXS := Lib.hid (HBS.out _ (List.getElem_mem hlt))
        clear hc hr hx ht
        generalize q.ps[i] = x at *
        go_upto_region 6 with fail
        go_cut [46] from 28 to 45 (fun v46 wx => v46 = .bool (!(lessB key x.f)) ∧ wr = wx)
        case first =>
          rcases leq_two x.f key with ⟨e1, e2 | ⟨e2, e3⟩⟩ | ⟨e1, e2, e3⟩
          · have HE1 := Lib.hid e1
            clear e1
            go_wp2_with fail
            go_meet
            exact ⟨by rw [HE1.out]; rfl, rfl⟩
          · have HE1 := Lib.hid e1
            clear e1
            go_wp2_with fail
            go_meet
            exact ⟨by rw [HE1.out]; rfl, rfl⟩
          · have HE1 := Lib.hid e1
            clear e1
            go_wp2_with fail
            go_meet
            exact ⟨by rw [HE1.out]; rfl, rfl⟩
        case rest =>
          obtain ⟨rfl, rfl⟩ := hcut
          cases hq : lessB key x.f with
          | true =>
            have hgo : goG key seq (q.ps.drop k) = (j, 0, none) := by
              rw [show goG key seq (q.ps.drop k) = _ from HG.out, HD.out]
              rw [goG_cons, if_pos hq]
              rfl
            have HGO := Lib.hid hgo
            have x2 := HX.out
            have e0 := x2.c0
            have e1 := x2.c1
            have e2 := x2.c2
            have e3 := x2.c3
            have f0 := x2.f 0
            have f1 := x2.f 1
            have f2 := x2.f 2
            have f3 := x2.f 3
            clear x2 hgo hq CR
            go_wp2
            refine bodyPost_ret (by simp [results, Tryz.results20, go_sem, e0, e1, e2, e3]; try rfl) rfl ?_
            refine .inr ⟨hm, k, HST.out, by rw [HGO.out]; rfl, ?_, set4_turn HT.out HLE.out⟩
            rw [HGO.out]
            exact set4_rd HR.out HFN.out
          | false =>
            go_wp2_with fail
            go_at_call 34
            refine CR.out.mono ?_
            rintro _ w4 ⟨v, rfl, r1, r2, r3, r4, r5⟩
            have HR4 := Lib.hid r4
            have HX4 := Lib.hid (r5.boxe HX.out HPB.out)
            have HT4 := Lib.hid (HT.out.trans r5 (fun _ h => .inl h))
            have HGS := Lib.hid (show goG key seq (q.ps.drop k) = _ from HG.out)
            rw [HD.out] at HGS
            rw [goG_cons, if_neg (by rw [hq]; simp)] at HGS
            clear CR r4 r5 HG HR HX HT hq
            have hle := getE_small x.b.data.toList
            rcases hge : getE x.b.data.toList with ⟨er, l⟩
            rw [hge] at r1 r2 HGS hle
            simp only at r1 r2 HGS hle ⊢
            by_cases her : er = 0
            · subst her
              have hsm := getE_small2 x.b.data.toList
              rw [hge] at hsm
              simp only at hsm
              have hxs := HXS.out
              rw [if_neg (by simp)] at HGS
              rw [len_data'] at hle
              obtain ⟨va, vc, rfl, hE⟩ := row_ents r1
              have CP := Lib.hid (pickU_any va l.length vc l key (seq : Int) w4 hE (by omega) (fun y hy => by have := hsm y hy; omega))
              generalize hbz : best l key (seq : Int) l.length = z at CP HGS
              clear r1 r2 r3 hE hge hle hsm hbz hxs
              by_cases hz : 0 ≤ z
              · rw [if_pos hz] at HGS
                rw [pickUV_yes l hz, decide_eq_true hz] at CP
                generalize entAt l z.toNat = y at CP HGS
                have HGO := Lib.hid (show goG key seq (q.ps.drop k) = (j + 1, 0, some y) from HGS.out)
                clear HGS hz
                go_wp2_with fail
                go_at_call 56
                refine CP.out.mono ?_
                rintro _ w5 ⟨rfl, b5⟩
                obtain ⟨W6, hW6⟩ : ∃ W6, w5.alloc (.cells #[.string y.k, .int .u64 y.s, .int .i64 y.n, .string y.v] 48) = W6 := ⟨_, rfl⟩
                have b6 : Below w4.heap.size w4 W6 := by rw [← hW6]; exact b5.alloc b5.size _
                have HR6 := Lib.hid (HR4.out.below b6)
                have HT6 := Lib.hid (HT4.out.trans (turn_of_below (F := []) b6) (by simp))
                have k0 : W6.cell? ⟨w5.heap.size, 0, none⟩ = some (.string y.k) := by rw [← hW6]; exact nce rfl rfl
                have k1 : W6.cell? ⟨w5.heap.size, 1, none⟩ = some (.int .u64 y.s) := by rw [← hW6]; exact nce rfl rfl
                have k2 : W6.cell? ⟨w5.heap.size, 2, none⟩ = some (.int .i64 y.n) := by rw [← hW6]; exact nce rfl rfl
                have k3 : W6.cell? ⟨w5.heap.size, 3, none⟩ = some (.string y.v) := by rw [← hW6]; exact nce rfl rfl
                have x2 := HX4.out.below b6
                have e0 := x2.c0
                have e1 := x2.c1
                have e2 := x2.c2
                have e3 := x2.c3
                have f0 := x2.f 0
                have f1 := x2.f 1
                have f2 := x2.f 2
                have f3 := x2.f 3
                clear x2 CP b5 b6
                go_wp2_with fail
                refine bodyPost_ret (by simp [results, Tryz.results20, go_sem, e0, e1, e2, e3]; try rfl) rfl ?_
                refine .inr ⟨hm, k, HST.out, by rw [HGO.out]; rfl, ?_, set4_turn HT6.out HLE.out⟩
                rw [HGO.out]
                exact set4_rd HR6.out HFN.out
              · rw [if_neg hz] at HGS
                rw [pickUV_no l hz, decide_eq_false hz] at CP
                clear hz
                go_wp2_with fail
                go_at_call 56
                refine CP.out.mono ?_
                rintro _ w5 ⟨rfl, b5⟩
                have b6 : Below w4.heap.size w4 (w5.alloc (.cells #[.string ⟨#[]⟩, .int .u64 0, .int .i64 0, .string ⟨#[]⟩] 48)) := b5.alloc b5.size _
                have HR6 := Lib.hid (HR4.out.below b6)
                have HT6 := Lib.hid (HT4.out.trans (turn_of_below (F := []) b6) (by simp))
                have HX6 := Lib.hid (HX4.out.below b6)
                clear CP b5 b6
                go_wp2_with fail
                go_roundw
                case rel => exact ⟨i + 1, j + 1, by go_num, by omega, by omega, by omega, HR6.out, HX6.out, HT6.out, Lib.hid (by
                  unfold GoneG
                  rw [HGS.out]
                  simp only [Prod.mk.injEq, and_true]
                  omega)⟩
                case measure => simp [intOf]; omega
            · rw [if_pos her] at HGS
              have HGO := Lib.hid (show goG key seq (q.ps.drop k) = (j + 1, er, none) from HGS.out)
              have dn : (er != 0) = true := by simpa using her
              have x2 := HX4.out
              have e0 := x2.c0
              have e1 := x2.c1
              have e2 := x2.c2
              have e3 := x2.c3
              have f0 := x2.f 0
              have f1 := x2.f 1
              have f2 := x2.f 2
              have f3 := x2.f 3
              clear x2 her HGS r1 r2 r3 hle hge
              go_wp2
              refine bodyPost_ret (by simp [results, Tryz.results20, go_sem, e0, e1, e2, e3]; try rfl) rfl ?_
              refine .inr ⟨hm, k, HST.out, by rw [HGO.out]; rfl, ?_, set4_turn HT4.out HLE.out⟩
              rw [HGO.out]
              exact set4_rd HR4.out HFN.out
      · obtain rfl : i = q.ps.length := by omega
        have hgo : goG key seq (q.ps.drop k) = (j, 0, none) := by
          rw [show goG key seq (q.ps.drop k) = _ from HG.out, List.drop_length]; rfl
        have HGO := Lib.hid hgo
        have x2 := hx
        have e0 := x2.c0
        have e1 := x2.c1
        have e2 := x2.c2
        have e3 := x2.c3
        have f0 := x2.f 0
        have f1 := x2.f 1
        have f2 := x2.f 2
        have f3 := x2.f 3
        clear x2 hgo hc hr hx ht hlt hil
        go_wp2
        refine bodyPost_ret (by simp [results, Tryz.results20, go_sem, e0, e1, e2, e3]; try rfl) rfl ?_
        refine .inr ⟨hm, k, HST.out, by rw [HGO.out]; rfl, ?_, set4_turn HT.out HLE.out⟩
        rw [HGO.out]
        exact set4_rd HR.out HFN.out
end
end Go.Proofs.YtmnboiikopkaoaaGreat

namespace Go.Proofs.YtmnboiikopkaoaaGreat
open Go.RowKit

/-- What Range tells of blocks from the k-th on, where j of them were read already and L stands already. -/
def GoneR (lo hi : ByteArray) (ps : List Prt) (k i j : Nat) (L : List Ent) : Prop := goR lo hi (ps.drop k) = (j + (goR lo hi (ps.drop i)).1, (goR lo hi (ps.drop i)).2.1, if (goR lo hi (ps.drop i)).2.1 ≠ 0 then [] else L ++ (goR lo hi (ps.drop i)).2.2)
theorem goR_cons (lo hi : ByteArray) (x : Prt) (r : List Prt) : goR lo hi (x :: r) =
    if withinB lo hi (maxB lo x.f) = false then (0, 0, [])
    else if (getE x.b.data.toList).1 ≠ 0 then (1, (getE x.b.data.toList).1, [])
    else ((goR lo hi r).1 + 1, (goR lo hi r).2.1, if (goR lo hi r).2.1 ≠ 0 then [] else rangeE lo hi (getE x.b.data.toList).2 ++ (goR lo hi r).2.2) := rfl
theorem goR_err (lo hi : ByteArray) : ∀ l : List Prt, (goR lo hi l).2.1 ≠ 0 → (goR lo hi l).2.2 = []
  | [], h => absurd rfl h
  | x :: r, h => by
    rw [goR_cons] at h ⊢
    split
    · rfl
    · split
      · rfl
      · rename_i h1 h2
        rw [if_neg h1, if_neg h2] at h
        simp only at h
        simp only [if_pos h]
theorem GoneR.first (lo hi : ByteArray) (ps : List Prt) (k : Nat) : GoneR lo hi ps k k 0 [] := by
  unfold GoneR
  rw [Nat.zero_add, List.nil_append]
  split
  · rename_i h
    rw [← goR_err lo hi _ h]
  · rfl
theorem GoneR.more {lo hi : ByteArray} {ps : List Prt} {k i j : Nat} {L : List Ent} (h : GoneR lo hi ps k i j L) (hi' : i < ps.length) (hw : withinB lo hi (maxB lo ps[i].f) = true) (he : (getE ps[i].b.data.toList).1 = 0) : GoneR lo hi ps k (i + 1) (j + 1) (L ++ rangeE lo hi (getE ps[i].b.data.toList).2) := by
  unfold GoneR at *
  rw [h, drop_cons' hi', goR_cons, if_neg (by rw [hw]; simp), if_neg (by rw [he]; simp)]
  simp only
  split
  · simp only [Prod.mk.injEq, and_true]; omega
  · simp only [List.append_assoc, Prod.mk.injEq, and_true]; omega
theorem GoneR.ends {lo hi : ByteArray} {ps : List Prt} {k i j : Nat} {L : List Ent} (h : GoneR lo hi ps k i j L) (hi' : ∀ hlt : i < ps.length, withinB lo hi (maxB lo (ps[i]'hlt).f) = false) (hil : i ≤ ps.length) : goR lo hi (ps.drop k) = (j, 0, L) := by
  unfold GoneR at h
  by_cases hlt : i < ps.length
  · rw [h, drop_cons' hlt, goR_cons, if_pos (hi' hlt)]
    simp
  · rw [h, show i = ps.length by omega, List.drop_length]
    simp [goR]
theorem GoneR.errs {lo hi : ByteArray} {ps : List Prt} {k i j : Nat} {L : List Ent} (h : GoneR lo hi ps k i j L) (hi' : i < ps.length) (hw : withinB lo hi (maxB lo ps[i].f) = true) (he : (getE ps[i].b.data.toList).1 ≠ 0) : goR lo hi (ps.drop k) = (j + 1, (getE ps[i].b.data.toList).1, []) := by
  unfold GoneR at h
  rw [h, drop_cons' hi', goR_cons, if_neg (by rw [hw]; simp), if_pos he]
  simp only [if_pos he]
set_option maxHeartbeats 1000000 in
/-- The function within. -/
theorem within_any (lo hi key : ByteArray) (X Y : Nat) (w : World) (hx : w.cell? ⟨X, 0, none⟩ = some (.string lo)) (hy : w.cell? ⟨Y, 0, none⟩ = some (.string hi)) :
    Calls Tryz.prog 32 #[.string key, .pointer (some ⟨X, 0, none⟩), .pointer (some ⟨Y, 0, none⟩)] w fun e w' => e = .returned (.bool (withinB lo hi key)) ∧ w = w' := by
  have e1 := less_T key lo
  have e2 := less_T key hi
  unfold withinB
  have e3 : hi.toList.isEmpty = (hi.toList == []) := by cases hi.toList <;> rfl
  rw [e3]
  cases a1 : lessB key lo with
  | true =>
    rw [a1] at e1
    go_enter Tryz.func32, Tryz.ntmps32
    go_wp2
    go_ret
    exact ⟨rfl, rfl⟩
  | false =>
    rw [a1] at e1
    have e4 : (⟨#[]⟩ : ByteArray).toList = [] := by rw [ByteArray.toList_eq]
    cases a2 : (hi.toList == []) with
    | true =>
      go_enter Tryz.func32, Tryz.ntmps32
      go_wp2
      go_ret
      exact ⟨rfl, rfl⟩
    | false =>
      cases a3 : lessB key hi with
      | true =>
        rw [a3] at e2
        go_enter Tryz.func32, Tryz.ntmps32
        go_wp2
        go_ret
        exact ⟨rfl, rfl⟩
      | false =>
        rw [a3] at e2
        go_enter Tryz.func32, Tryz.ntmps32
        go_wp2
        go_ret
        exact ⟨rfl, rfl⟩
/-- The state of Range: the reader, the two ends in boxes, what was read last, what is told. -/
structure RgS (W : World) (p : Nat) (F : List Nat) (q : Rdb) (X Y : Nat) (lo hi : ByteArray) (v : Value) (l : List Ent) (V : Value) (L : List Ent) (wx : World) : Prop where
  rd : RdAt wx p F q
  bx : wx.cell? ⟨X, 0, none⟩ = some (.string lo)
  by_ : wx.cell? ⟨Y, 0, none⟩ = some (.string hi)
  rv : Row wx 48 4 v l.length (cellsE l)
  rV : Row wx 48 4 V L.length (cellsE L)
  nil : L = [] → V = .slice none 0 0
  new : ∀ g, ob V = some g → W.heap.size ≤ g
  ne : ∀ g, ob V = some g → ob v ≠ some g
  turn : Turn [p] W wx
  fl : ∀ k ∈ F, k < W.heap.size
  xl : X < W.heap.size
  yl : Y < W.heap.size
section
variable {W wx wy : World} {p : Nat} {F : List Nat} {q : Rdb} {X Y : Nat} {lo hi : ByteArray} {v V V' : Value} {l L : List Ent}
theorem RgS.below (h : RgS W p F q X Y lo hi v l V L wx) (hb : Below wx.heap.size wx wy) : RgS W p F q X Y lo hi v l V L wy where
  rd := h.rd.below hb
  bx := (hb.cell (World.block_lt_of_cell? wx _ h.bx)).trans h.bx
  by_ := (hb.cell (World.block_lt_of_cell? wx _ h.by_)).trans h.by_
  rv := row_below h.rv hb
  rV := row_below h.rV hb
  nil := h.nil
  new := h.new
  ne := h.ne
  turn := h.turn.trans (turn_of_below (F := []) hb) (by simp)
  fl := h.fl
  xl := h.xl
  yl := h.yl
/-- One more version is told. -/
theorem RgS.add (h : RgS W p F q X Y lo hi v l V L wx) (x : Ent) (hr : Row wy 48 4 V' (L.length + 1) (cellsE L ++ [.string x.k, .int .u64 x.s, .int .i64 x.n, .string x.v])) (hg : wx.grownBy wy (ob V)) (ho : ob V' = ob V ∨ ∃ g, ob V' = some g ∧ wx.heap.size ≤ g) : RgS W p F q X Y lo hi v l V' (L ++ [x]) wy where
  rd := h.rd.kept fun k hk => hg.block k (h.rd.lt k hk) (fun e => by have := h.new k e.symm; have := h.fl k hk; omega)
  bx := (World.cell?_of_block (hg.block X (World.block_lt_of_cell? wx _ h.bx) (fun e => by have := h.new X e.symm; have := h.xl; omega))).trans h.bx
  by_ := (World.cell?_of_block (hg.block Y (World.block_lt_of_cell? wx _ h.by_) (fun e => by have := h.new Y e.symm; have := h.yl; omega))).trans h.by_
  rv := h.rv.kept fun k hk => hg.block k (h.rv.lt k hk) (fun e => h.ne k e.symm hk)
  rV := by rw [List.length_append, cellsE_append]; exact hr
  nil := fun e => by simp at e
  new := fun g hg' => by
    rcases ho with e | ⟨g', e, hge⟩
    · exact h.new g (by rw [← e]; exact hg')
    · rw [e] at hg'; cases hg'
      exact Nat.le_trans h.turn.size hge
  ne := fun g hg' hv => by
    rcases ho with e | ⟨g', e, hge⟩
    · exact h.ne g (by rw [← e]; exact hg') hv
    · rw [e] at hg'; cases hg'
      have := h.rv.lt _ hv
      omega
  turn := h.turn.trans (turn_of_grown (F := (ob V).toList) hg (fun k hk => .inl (by rw [hk]; simp))) (fun k hk => .inr (h.new k (by simpa using hk)))
  fl := h.fl
  xl := h.xl
  yl := h.yl
end
theorem rgs_read {W w : World} {p : Nat} {F : List Nat} {q : Rdb} {X Y : Nat} {lo hi : ByteArray} {V : Value} {L : List Ent} (h : RgS W p F q X Y lo hi (.slice none 0 0) [] V L w) (i : Nat) (hi' : i < q.ps.length) (hb : (q.ps[i]).b.size ≤ 100000) (hn : q.n < 9223372036854775807) (hil : q.ps.length ≤ 1000000) :
    Calls Tryz.prog 34 #[.pointer (some ⟨p, 0, none⟩), .int .i64 (i : Int)] w fun e w' => ∃ v, e = .returned (.tuple #[v, .int .i64 (getE (q.ps[i]).b.data.toList).1]) ∧ Hid (RgS W p F { q with n := q.n + 1 } X Y lo hi v (getE (q.ps[i]).b.data.toList).2 V L w') ∧ ((getE (q.ps[i]).b.data.toList).2 = [] → v = .slice none 0 0) ∧ (getE (q.ps[i]).b.data.toList).2.length ≤ 100000 := by
  refine (rblock_any h.rd i hi' hb hn hil).mono ?_
  rintro e w' ⟨v, rfl, r1, r2, r3, r4, r5⟩
  have hp : ∀ k, k ≠ p → k < w.heap.size → w'.heap[k]? = w.heap[k]? := fun k hk hl => r5.block k hl (by simpa using hk)
  have hpl := h.fl p h.rd.mem
  have hX : X ≠ p := fun e => by
    obtain ⟨V0, h1, -⟩ := h.rd.ex
    have hx := h.bx
    rw [e] at hx
    unfold World.cell? at hx
    rw [h1] at hx
    obtain ⟨a, cap, c0, -⟩ := h.rd.parts
    rw [← e] at c0
    rw [h.bx] at c0
    cases c0
  have hY : Y ≠ p := fun e => by
    obtain ⟨a, cap, c0, -⟩ := h.rd.parts
    rw [← e] at c0
    rw [h.by_] at c0
    cases c0
  refine ⟨v, rfl, Lib.hid ⟨r4, ?_, ?_, r1, ?_, h.nil, h.new, ?_, h.turn.trans r5 (fun _ h => .inl h), h.fl, h.xl, h.yl⟩, r2, ?_⟩
  · exact (World.cell?_of_block (hp X hX (World.block_lt_of_cell? w _ h.bx))).trans h.bx
  · exact (World.cell?_of_block (hp Y hY (World.block_lt_of_cell? w _ h.by_))).trans h.by_
  · exact h.rV.kept fun k hk => hp k (fun e => by have := h.new k hk; omega) (h.rV.lt k hk)
  · intro g hg hv
    have := r3 g hv
    have := h.rV.lt g hg
    omega
  · have := (getE_small (q.ps[i]).b.data.toList).1
    rw [len_data'] at this
    omega
section
variable {w : World} {p : Nat} {F : List Nat} {q : Rdb}
set_option maxHeartbeats 8000000 in
set_option maxRecDepth 100000 in
theorem rrange_any (h : RdAt w p F q) (h0 : q.ps ≠ []) (hl : q.ps.length ≤ 1000) (hbs : ∀ x ∈ q.ps, x.b.size ≤ 100000) (hn : q.n ≤ 1000000000) (lo hi : ByteArray) :
    Calls Tryz.prog 11 #[.pointer (some ⟨p, 0, none⟩), .string lo, .string hi] w fun e w' => ∃ k v, Starts q lo k ∧ e = .returned (.tuple #[v, .int .i64 (goR lo hi (q.ps.drop k)).2.1]) ∧
      Row w' 48 4 v (goR lo hi (q.ps.drop k)).2.2.length (cellsE (goR lo hi (q.ps.drop k)).2.2) ∧ ((goR lo hi (q.ps.drop k)).2.2 = [] → v = .slice none 0 0) ∧ (∀ g, ob v = some g → w.heap.size ≤ g) ∧ RdAt w' p F { q with n := q.n + (goR lo hi (q.ps.drop k)).1 } ∧ Turn [p] w w' := by
  have hp := h.plt
  have hFl := h.lt
  obtain ⟨i0, hi0, hz0, hzs, hzb⟩ := info_parts infoE5
  obtain ⟨W, hW⟩ : ∃ W, (w.alloc (.cells #[.string lo] 9)).alloc (.cells #[.string hi] 9) = W := ⟨_, rfl⟩
  have hB : Below w.heap.size w W := by rw [← hW]; exact ((Below.refl _ _).alloc (Nat.le_refl _) _).alloc (by simp) _
  have cx : W.cell? ⟨w.heap.size, 0, none⟩ = some (.string lo) := by rw [← hW]; exact oce (by simp) (nce rfl rfl)
  have cy : W.cell? ⟨w.heap.size + 1, 0, none⟩ = some (.string hi) := by rw [← hW]; exact nce (by simp) rfl
  have hW0 := h.below hB
  have C1 := Lib.hid (isNone_no hW0 h0)
  have C2 := Lib.hid (start_any hW0 (by omega) lo)
  have hfn : ∀ (args : Array Value) (w : World), (callFunc 32 args).run Tryz.prog w = .ok (.enter 32 args) w := fun args w => by kernel_rfl
  have hS : RgS W p F q w.heap.size (w.heap.size + 1) lo hi (.slice none 0 0) [] (.slice none 0 0) [] W := ⟨hW0, cx, cy, row_nil _ _ _, row_nil _ _ _, fun _ => rfl, by simp [ob], by simp [ob], Turn.refl _ _, fun k hk => Nat.lt_of_lt_of_le (hFl k hk) hB.size, World.block_lt_of_cell? W _ cx, World.block_lt_of_cell? W _ cy⟩
  have HS := Lib.hid hS
  obtain ⟨X, hX⟩ : ∃ X, w.heap.size = X := ⟨_, rfl⟩
  obtain ⟨Y, hY⟩ : ∃ Y, w.heap.size + 1 = Y := ⟨_, rfl⟩
  have HXE := Lib.hid hX
  have HYE := Lib.hid hY
  rw [hY, hX] at HS
  rw [hY] at cy
  rw [hX] at cx
  have HTW := Lib.hid (turn_of_below (F := [p]) hB)
  have HBS := Lib.hid hbs
  have hYX : X + 1 = Y := by omega
  clear hS h hW0 h0 hbs hFl hB hX hY
  go_enter Tryz.func11, Tryz.ntmps11
  go_upto_region 1 with fail
  try rw [hW]
  try rw [HYE.out]
  try rw [HXE.out]
  try rw [hYX]
  clear hW hYX
  go_wp2_with (go_at_call 31; (with_reducible refine C1.out.mono ?_); rintro _ w1 ⟨rfl, rfl⟩)
  go_at_call 33
  refine C2.out.mono ?_
  rintro _ w2 ⟨k, rfl, HST, b2⟩
  have HS2 := Lib.hid (HS.out.below b2)
  have hkl := HST.out.1
  clear HS C1 C2 b2 cx cy
  go_wp2_with fail
  go_loopw [9, 10] (fun ov iv wr => ∃ (i j : Nat) (V : Value) (L : List Ent), V = ov ∧ iv = .int .i64 (i : Int) ∧ k ≤ i ∧ i ≤ q.ps.length ∧ j ≤ i ∧ L.length ≤ i * 100000 ∧ RgS W p F { q with n := q.n + j } X Y lo hi (.slice none 0 0) [] V L wr ∧ Hid (GoneR lo hi q.ps k i j L)) (fun _ iv _ => q.ps.length - (intOf iv).toNat)
  case atStart => exact ⟨k, 0, _, [], rfl, rfl, Nat.le_refl _, hkl, Nat.zero_le _, by simp, HS2.out, Lib.hid (GoneR.first lo hi q.ps k)⟩
  case round =>
    obtain ⟨i, j, V, L, rfl, rfl, hki, hil, hji, hLl, hs, HG⟩ := hrel
    have HS := Lib.hid hs
    obtain ⟨a, cap, c0, hc⟩ := hs.rd.parts
    simp only at c0 hc
    have bx := hs.bx
    have by1 := hs.by_
    clear HS2
    by_cases hlt : i < q.ps.length
    · obtain ⟨g, rfl, hg, d0, -⟩ := hc i hlt
      have hiI : (i : Int) < (q.ps.length : Int) := by omega
      have HCR := Lib.hid (fun (Wx : World) (hx : RgS W p F { q with n := q.n + j } X Y lo hi (.slice none 0 0) [] V L Wx) => rgs_read hx i hlt (HBS.out _ (List.getElem_mem hlt)) (by simp only; omega) (by simp only; omega))
      simp only at HCR
      have HM := Lib.hid (fun h1 h2 => HG.out.more hlt h1 h2)
      have HN := Lib.hid (fun (h1 : withinB lo hi (maxB lo (q.ps[i]'hlt).f) = false) => HG.out.ends (fun _ => h1) hil)
      have HE := Lib.hid (fun h1 h2 => HG.out.errs hlt h1 h2)
      clear hc hs HG
      generalize q.ps[i] = x at *
      obtain ⟨M, hM⟩ : ∃ M, maxB lo x.f = M := ⟨_, rfl⟩
      have hmax : ∀ (ts : Array TypeId) (t : TypeId) (w : World), (Builtin.max_ ts t #[.string lo, .string x.f]).run Tryz.prog w = .ok (.string M) w := fun ts t w => by
        rw [← hM]
        unfold maxB
        rw [← less_T]
        cases hq : Op.bytesLess lo.toList x.f.toList <;> simp [Builtin.max_, Builtin.max2, Op.stringOp, asBool, hq]
      have CW := Lib.hid (fun n => within_any lo hi M X Y (wr.drewN n) bx by1)
      rw [hM] at HM HN HE
      clear hM
      go_upto_region 6 with fail
      go_cut [41] from 21 to 40 (fun v41 wx => v41 = .bool (withinB lo hi M) ∧ ∃ n, wx = wr.drewN n)
      case first =>
        go_quiet ((go_at_call 32; exact quietH (CW.out _)))
        go_wp2_with fail
        go_meet
        exact ⟨rfl, _, rfl⟩
      case rest =>
        obtain ⟨rfl, nd, rfl⟩ := hcut
        have HSw := Lib.hid (show RgS W p F { q with n := q.n + j } X Y lo hi (.slice none 0 0) [] V L (wr.drewN nd) from HS.out.below (belowN (Below.refl _ _) _))
        cases hq : withinB lo hi M with
        | false =>
          have HN2 := Lib.hid (HN.out hq)
          clear hq HN HM HE HCR CW hmax
          go_wp2_with fail
          go_ret2
          refine ⟨k, V, HST.out, by rw [HN2.out]; rfl, ?_⟩
          rw [HN2.out]
          exact ⟨HSw.out.rV, HSw.out.nil, fun g hg => Nat.le_trans HTW.out.size (HSw.out.new g hg), HSw.out.rd, HTW.out.trans HSw.out.turn (fun _ h => .inl h)⟩
        | true =>
          have HM2 := Lib.hid (HM.out hq)
          have HE2 := Lib.hid (HE.out hq)
          clear hq HN HM HE CW hmax
          go_wp2_with fail
          go_at_call 34
          refine (HCR.out _ HSw.out).mono ?_
          rintro _ w4 ⟨v, rfl, HS4, hv0, hll⟩
          rcases hge : getE x.b.data.toList with ⟨er, l⟩
          rw [hge] at HM2 HE2 HS4 hv0 hll
          simp only at HM2 HE2 HS4 hv0 hll ⊢
          clear hge HCR HSw HS
          by_cases her : er = 0
          · subst her
            have HM3 := Lib.hid (HM2.out rfl)
            clear HM2 HE2
            obtain ⟨va, vc, rfl, -, -⟩ := HS4.out.rv.le
            go_wp2_with fail
            go_loopw [9, 55] (fun ov mv wy => ∃ (m : Nat) (V' : Value), V' = ov ∧ mv = .int .i64 (m : Int) ∧ m ≤ l.length ∧ Hid (RgS W p F { q with n := q.n + j + 1 } X Y lo hi (.slice va l.length vc) l V' (L ++ rangeE lo hi (l.take m)) wy)) (fun _ mv _ => l.length - (intOf mv).toNat)
            case atStart => exact ⟨0, V, rfl, rfl, Nat.zero_le _, Lib.hid (by rw [List.take_zero]; unfold rangeE; rw [List.filter_nil, List.append_nil]; exact HS4.out)⟩
            case round =>
              obtain ⟨m, V', rfl, rfl, hml, HS5⟩ := hrel
              by_cases hlm : m < l.length
              · obtain ⟨y, hy⟩ : ∃ y, l[m] = y := ⟨_, rfl⟩
                have hrt := rangeE_take lo hi l m hlm
                rw [hy] at hrt
                obtain ⟨g2, rfl, hcell⟩ : ∃ g2, va = some ⟨g2, 0, none⟩ ∧ ∀ j u, y.cells[j]? = some u → wr.cell? ⟨g2, m * 4 + j, none⟩ = some u := by
                  have hc := HS5.out.rv.cell
                  rcases HS5.out.rv.2 with ⟨hn', -⟩ | ⟨g2, cap', cur, e, -⟩
                  · omega
                  · cases e
                    refine ⟨g2, rfl, fun j u hu => ?_⟩
                    have := hc g2 0 _ rfl (m * 4 + j) u (cellsE_get l m hlm j u (by rw [hy]; exact hu))
                    rwa [Nat.zero_add] at this
                have q0 : wr.cell? ⟨g2, m * 4, none⟩ = some (.string y.k) := hcell 0 _ rfl
                have q1 : wr.cell? ⟨g2, m * 4 + 1, none⟩ = some (.int .u64 y.s) := hcell 1 _ rfl
                have q2 : wr.cell? ⟨g2, m * 4 + 2, none⟩ = some (.int .i64 y.n) := hcell 2 _ rfl
                have q3 : wr.cell? ⟨g2, m * 4 + 3, none⟩ = some (.string y.v) := hcell 3 _ rfl
                have hmI : (m : Int) < (l.length : Int) := by omega
                obtain ⟨W6, hW6⟩ : ∃ W6, wr.alloc (.cells #[.string y.k, .int .u64 y.s, .int .i64 y.n, .string y.v] 48) = W6 := ⟨_, rfl⟩
                have b6 : Below wr.heap.size wr W6 := by rw [← hW6]; exact (Below.refl _ _).alloc (Nat.le_refl _) _
                have HS6 := Lib.hid (HS5.out.below b6)
                have bx6 := HS6.out.bx
                have by6 := HS6.out.by_
                have CW := Lib.hid (within_any lo hi y.k X Y W6 bx6 by6)
                have HRT := Lib.hid hrt
                have hib : inRange lo hi y = withinB lo hi y.k := rfl
                rw [hib] at HRT
                have HLL := Lib.hid (show (L ++ rangeE lo hi (l.take m)).length + 1 ≤ maxLen ∧ ((L ++ rangeE lo hi (l.take m)).length + 1) * 48 ≤ 140737488355328 by
                  have h1 := rangeE_le lo hi (l.take m)
                  rw [List.length_take] at h1
                  have h2 : i * 100000 ≤ 100000000 := by omega
                  rw [List.length_append]
                  unfold maxLen
                  omega)
                have k0 : W6.cell? ⟨wr.heap.size, 0, none⟩ = some (.string y.k) := by rw [← hW6]; exact nce rfl rfl
                have k1 : W6.cell? ⟨wr.heap.size, 1, none⟩ = some (.int .u64 y.s) := by rw [← hW6]; exact nce rfl rfl
                have k2 : W6.cell? ⟨wr.heap.size, 2, none⟩ = some (.int .i64 y.n) := by rw [← hW6]; exact nce rfl rfl
                have k3 : W6.cell? ⟨wr.heap.size, 3, none⟩ = some (.string y.v) := by rw [← hW6]; exact nce rfl rfl
                clear hcell hrt hib b6 bx6 by6 HS4 HS5 hy
                cases hq : withinB lo hi y.k with
                | false =>
                  rw [hq] at CW HRT
                  go_wp2_with (go_at_call 32; (with_reducible refine CW.out.mono ?_); rintro _ w7 ⟨rfl, rfl⟩)
                  go_roundw
                  case rel => exact ⟨m + 1, V', rfl, by go_num, by omega, Lib.hid (by rw [HRT.out]; simpa using HS6.out)⟩
                  case measure => simp [intOf]; omega
                | true =>
                  rw [hq] at CW HRT
                  have HS7 := Lib.hid (HS6.out.below ((Below.refl W6.heap.size W6).alloc (Nat.le_refl _) (.cells #[.string y.k, .int .u64 y.s, .int .i64 y.n, .string y.v] 48)))
                  obtain ⟨LL, hLE⟩ : ∃ LL, L ++ rangeE lo hi (l.take m) = LL := ⟨_, rfl⟩
                  rw [hLE] at HS7 HLL
                  have HLE := Lib.hid hLE
                  clear hLE HS6
                  go_wp2_with (first | (go_at_call 32; (with_reducible refine CW.out.mono ?_); rintro _ w7 ⟨rfl, rfl⟩) | (at_builtin; refine wpList_append_row _ rfl _ _ 22 22 rfl 48 i0 _ 4 48 Tryz.underlying22 hi0 hz0 hzs hzb rfl V' _ _ rfl HS7.out.rV _ rfl 1 _ (src_new y _) HLL.out.1 HLL.out.2 ?_; intro v8 w8 hrow8 hgrow8 hob8) | fail)
                  go_roundw
                  case rel =>
                    refine ⟨m + 1, v8, rfl, by go_num, by omega, Lib.hid ?_⟩
                    rw [HRT.out, if_pos (by first | rfl | trivial), ← List.append_assoc, HLE.out]
                    refine HS7.out.add y hrow8 hgrow8 ?_
                    rcases hob8 with e | ⟨e, -⟩
                    · exact .inl e
                    · exact .inr ⟨_, e, Nat.le_refl _⟩
                  case measure => simp [intOf]; omega
              · obtain rfl : m = l.length := by omega
                rw [List.take_length] at HS5
                clear HS4
                go_wp2_with fail
                go_roundw
                case rel => exact ⟨i + 1, j + 1, V', L ++ rangeE lo hi l, rfl, by go_num, by omega, by omega, by omega, by
                  have := rangeE_le lo hi l
                  rw [List.length_append]
                  omega, ⟨HS5.out.rd, HS5.out.bx, HS5.out.by_, row_nil _ _ _, HS5.out.rV, HS5.out.nil, HS5.out.new, by simp [ob], HS5.out.turn, HS5.out.fl, HS5.out.xl, HS5.out.yl⟩, HM3⟩
                case measure => simp [intOf]; omega
          · have HE3 := Lib.hid (HE2.out her)
            have dn : (er != 0) = true := by simpa using her
            clear HM2 HE2 her
            go_wp2_with fail
            go_ret2
            refine ⟨k, .slice none 0 0, HST.out, by rw [HE3.out]; rfl, ?_⟩
            rw [HE3.out]
            exact ⟨row_nil _ _ _, fun _ => rfl, fun g hg => by simp [ob] at hg, HS4.out.rd, HTW.out.trans HS4.out.turn (fun _ h => .inl h)⟩
    · obtain rfl : i = q.ps.length := by omega
      have HN := Lib.hid (HG.out.ends (fun h => absurd h (Nat.lt_irrefl _)) (Nat.le_refl _))
      clear hc hs HG hlt hil
      go_upto_region 6 with fail
      go_cut [41] from 21 to 40 (fun v41 wx => v41 = .bool false ∧ ∃ n, wx = wr.drewN n)
      case first =>
        go_quiet (fail)
        go_wp2_with fail
        go_meet
        exact ⟨rfl, _, rfl⟩
      case rest =>
        obtain ⟨rfl, nd, rfl⟩ := hcut
        have HSw := Lib.hid (show RgS W p F { q with n := q.n + j } X Y lo hi (.slice none 0 0) [] V L (wr.drewN nd) from HS.out.below (belowN (Below.refl _ _) _))
        go_wp2_with fail
        go_ret2
        refine ⟨k, V, HST.out, by rw [HN.out]; rfl, ?_⟩
        rw [HN.out]
        exact ⟨HSw.out.rV, HSw.out.nil, fun g hg => Nat.le_trans HTW.out.size (HSw.out.new g hg), HSw.out.rd, HTW.out.trans HSw.out.turn (fun _ h => .inl h)⟩
end
end Go.Proofs.YtmnboiikopkaoaaGreat
