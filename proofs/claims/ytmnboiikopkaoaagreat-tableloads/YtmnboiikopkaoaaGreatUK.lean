/- The program's ikey.fresh and Pick, over the versions of BR3. -/
import Derived.Test.YtmnboiikopkaoaaGreatBE
import Derived.Test.YtmnboiikopkaoaaGreatZS
import Derived.Carry
import Derived.BigQuiet
namespace Go.Proofs.YtmnboiikopkaoaaGreat
open Go.RowKit Go.Shelf

theorem soeU {w : World} {b i j : Nat} {u v : Value} (h : w.cell? ⟨b, j, none⟩ = some v) (hne : i ≠ j) : (w.setCell ⟨b, i, none⟩ u).cell? ⟨b, j, none⟩ = some v :=
  (World.cell?_setCell_other w _ _ u (fun e => hne (by cases e; rfl))).trans h
theorem sceU {w : World} {b i : Nat} {u v : Value} (h : w.cell? ⟨b, i, none⟩ = some u) : (w.setCell ⟨b, i, none⟩ v).cell? ⟨b, i, none⟩ = some v := World.cell?_setCell_same w _ v h
theorem strU_eq {a b : ByteArray} (h : (a.toList == b.toList) = true) : a = b := by
  rw [ByteArray.toList_eq, ByteArray.toList_eq] at h
  cases a; cases b
  simp_all
theorem strU_neq {a b : ByteArray} (h : (a.toList == b.toList) = false) : a ≠ b := by
  rintro rfl
  simp at h
set_option maxHeartbeats 4000000 in
set_option maxRecDepth 100000 in
theorem freshU_any (k : ByteArray) (s n : Int) (v : ByteArray) (w : World) (hk : k.size ≤ 281474976710656) (hv : v.size ≤ 281474976710656) :
    Calls Tryz.prog 92 #[ev k s n v] w fun e w' => e = .returned (ev k s n v) ∧ Below w.heap.size w w' := by
  have C1 := Lib.hid (fun w => clone_any k w hk)
  have C2 := Lib.hid (fun w => clone_any v w hv)
  unfold ev
  go_enter Tryz.func92, Tryz.ntmps92
  go_wp2
  obtain ⟨W, hW⟩ : ∃ W, ((w.alloc (.cells #[.string k, .int .u64 s, .int .i64 n, .string v] 48)).alloc (.cells #[.string ⟨#[]⟩, .int .u64 0, .int .i64 0, .string ⟨#[]⟩] 48)) = W := ⟨_, rfl⟩
  have hB : Below w.heap.size w W := by rw [← hW]; exact ((Below.refl _ _).alloc (Nat.le_refl _) _).alloc (by simp) _
  have x0 : Boxe w.heap.size k s n v W := by rw [← hW]; exact (Below.heap_alloc _ _ _ (by simp)).trans (new_block _ _ rfl)
  have y0 : Boxe (w.heap.size + 1) ⟨#[]⟩ 0 0 ⟨#[]⟩ W := by rw [← hW]; exact new_block _ _ (by simp)
  rw [hW]
  clear hW
  have c0 := x0.c0
  have c3 := x0.c3
  go_region_held3 (fun w' => w'.cell? ⟨w.heap.size, 0, none⟩ = some (.string k) ∧ w'.cell? ⟨w.heap.size, 3, none⟩ = some (.string v)) (first | go_keep | exact ⟨c10, c13⟩ | exact ⟨c20, c23⟩ | exact ⟨sceU c20, soeU c23 (by decide)⟩ | exact ⟨soeU (sceU c20) (by decide), sceU (soeU c23 (by decide))⟩) (first | (go_at_call 25; refine (C1.out _).mono ?_; rintro e w1 ⟨rfl, hb1⟩; have x1 := x0.drew.below hb1; have y1 := y0.drew.below hb1; have c10 := x1.c0; have c13 := x1.c3) | (go_at_call 25; refine (C2.out _).mono ?_; rintro e w2 ⟨rfl, hb2⟩; have x2 := x1.below hb2; have y2 := y1.below hb2; have c20 := x2.c0; have c21 := x2.c1; have c22 := x2.c2; have c23 := x2.c3; have f20 := x2.f 0; have f23 := x2.f 3; have d20 := y2.c0; have d21 := y2.c1; have d22 := y2.c2; have d23 := y2.c3; have g20 := y2.f 0; have g21 := y2.f 1; have g22 := y2.f 2; have g23 := y2.f 3) | fail)
  all_goals go_wp2
  all_goals
    have hs : w.heap.size < w1.heap.size := x1.lt
    have h1 : Below w.heap.size w w2 := (hB.drew.trans (hb1.mono hB.size)).trans (hb2.mono (by omega))
    refine bodyPost_ret (by simp [results, Tryz.results92, go_sem, d20, d21, d22, d23]; try rfl) rfl ?_
    exact ⟨rfl, (((((h1.setCell (Nat.le_refl _) _).setCell (Nat.le_refl _) _).setCell (Nat.le_succ _) _).setCell (Nat.le_succ _) _).setCell (Nat.le_succ _) _).setCell (Nat.le_succ _) _⟩
/-- The place of the version that is picked among the first i; none: -1. -/
def best (es : List Ent) (key : ByteArray) (seq : Int) : Nat → Int
  | 0 => -1
  | i + 1 =>
    if (es.getD i Ent.zero).k = key ∧ (es.getD i Ent.zero).s ≤ seq ∧ (best es key seq i < 0 ∨ (es.getD (best es key seq i).toNat Ent.zero).s < (es.getD i Ent.zero).s) then (i : Int) else best es key seq i
theorem best_lo (es : List Ent) (key : ByteArray) (seq : Int) : ∀ i, -1 ≤ best es key seq i ∧ best es key seq i < i
  | 0 => by simp [best]
  | i + 1 => by
    have := best_lo es key seq i
    unfold best
    split <;> omega
def pickUV (es : List Ent) (z : Int) : Value := if 0 ≤ z then (es.getD z.toNat Ent.zero).val else ev ⟨#[]⟩ 0 0 ⟨#[]⟩
set_option maxHeartbeats 4000000 in
set_option maxRecDepth 100000 in
theorem pickU_any (a : Option Addr) (len cap : Nat) (es : List Ent) (key : ByteArray) (seq : Int) (w : World) (hE : EntsAt w.heap.size w a len es) (hl : len ≤ 1000000) (hsm : ∀ x ∈ es, x.k.size ≤ 281474976710656 ∧ x.v.size ≤ 281474976710656) :
    Calls Tryz.prog 56 #[.slice a len cap, .string key, .int .u64 seq] w fun e w' => e = .returned (.tuple #[pickUV es (best es key seq len), .bool (decide (0 ≤ best es key seq len))]) ∧ Below w.heap.size w w' := by
  have hel := hE.1
  have HE := Lib.hid hE
  have HSM := Lib.hid hsm
  clear hE hsm
  go_enter Tryz.func56, Tryz.ntmps56
  go_wp2
  obtain ⟨W, hW⟩ : ∃ W, w.alloc (.cells #[.string ⟨#[]⟩, .int .u64 0, .int .i64 0, .string ⟨#[]⟩] 48) = W := ⟨_, rfl⟩
  have bW : Below w.heap.size w W := by rw [← hW]; exact (Below.refl _ _).alloc (Nat.le_refl _) _
  have xW : Boxe w.heap.size ⟨#[]⟩ 0 0 ⟨#[]⟩ W := by rw [← hW]; exact new_block _ _ rfl
  rw [hW]
  clear hW
  have HEW := Lib.hid (fun W' (h : Below W.heap.size W W') => HE.out.below (bW.trans (h.mono bW.size)))
  go_loopw [8, 13] (fun bv iv wr => ∃ i : Nat, bv = .int .i64 (best es key seq i) ∧ iv = .int .i64 (i : Int) ∧ i ≤ len ∧ Below W.heap.size W wr) (fun _ iv _ => len - (intOf iv).toNat)
  case atStart => exact ⟨0, rfl, rfl, Nat.zero_le _, Below.refl _ _⟩
  case round =>
    obtain ⟨i, rfl, rfl, hil0, hbl⟩ := hrel
    have hcells : ∀ i, i < len → ∃ b off, a = some ⟨b, off, none⟩ ∧ b < w.heap.size ∧ ∃ x : Ent, es[i]? = some x ∧ ∀ j u, x.cells[j]? = some u → wr.cell? ⟨b, off + i * 4 + j, none⟩ = some u := by
      intro i hi
      rcases (HEW.out wr hbl).2 with h0 | ⟨b, off, e, h1, h2⟩
      · omega
      · exact ⟨b, off, e, h1, es[i]'(by omega), List.getElem?_eq_getElem (by omega), h2 i (by omega)⟩
    have HCE := Lib.hid hcells
    clear hcells
    have hb0 := best_lo es key seq i
    by_cases hlt : i < len
    · obtain ⟨b, off, rfl, hblt, ⟨K, SQ, NN, V0⟩, hget, hcell⟩ := HCE.out i hlt
      have hbr : b < wr.heap.size := by have := bW.size; have := hbl.size; omega
      have q0 : wr.cell? ⟨b, off + i * 4, none⟩ = some (.string K) := hcell 0 _ rfl
      have q1 : wr.cell? ⟨b, off + i * 4 + 1, none⟩ = some (.int .u64 SQ) := hcell 1 _ rfl
      have q2 : wr.cell? ⟨b, off + i * 4 + 2, none⟩ = some (.int .i64 NN) := hcell 2 _ rfl
      have q3 : wr.cell? ⟨b, off + i * 4 + 3, none⟩ = some (.string V0) := hcell 3 _ rfl
      have hgi : es.getD i Ent.zero = ⟨K, SQ, NN, V0⟩ := by rw [List.getD_eq_getElem?_getD, hget]; rfl
      have hil : (i : Int) < (len : Int) := by omega
      have HST := Lib.hid (show best es key seq (i + 1) = if K = key ∧ SQ ≤ seq ∧ (best es key seq i < 0 ∨ (es.getD (best es key seq i).toNat Ent.zero).s < SQ) then (i : Int) else best es key seq i by show (if _ then _ else _) = _; rw [hgi])
      have HBL := Lib.hid (show ∀ (o : Obj), Below W.heap.size W (wr.alloc o) from fun o => hbl.alloc hbl.size o)
      clear hcell hget hgi
      cases hk : (K.toList == key.toList) with
      | false =>
        have hst := HST.out
        rw [if_neg (fun h => strU_neq hk h.1)] at hst
        go_wp2
        go_roundw
        case rel => exact ⟨i + 1, by rw [hst], by go_num, by omega, HBL.out _⟩
        case measure => simp [intOf]; omega
      | true =>
        have hke := strU_eq hk
        cases hq : decide (seq < SQ) with
        | true =>
          have hq' := of_decide_eq_true hq
          have hst := HST.out
          rw [if_neg (fun h => by have := h.2.1; omega)] at hst
          go_wp2
          go_roundw
          case rel => exact ⟨i + 1, by rw [hst], by go_num, by omega, HBL.out _⟩
          case measure => simp [intOf]; omega
        | false =>
          have hq' := of_decide_eq_false hq
          have HKE := Lib.hid hke
          clear hke
          cases hn : decide (best es key seq i < 0) with
          | true =>
            have hst := HST.out
            rw [if_pos ⟨HKE.out, by omega, .inl (of_decide_eq_true hn)⟩] at hst
            have HS2 := Lib.hid hst
            clear hst
            generalize best es key seq i = BI at *
            go_wp2
            go_quiet (fail)
            go_wp2
            go_roundw
            case rel => exact ⟨i + 1, by rw [HS2.out], by go_num, by omega, belowN (HBL.out _) _⟩
            case measure => simp [intOf]; omega
          | false =>
            have hn' := of_decide_eq_false hn
            obtain ⟨c, hc⟩ : ∃ c : Nat, best es key seq i = (c : Int) := ⟨(best es key seq i).toNat, by omega⟩
            obtain ⟨b', off', e', -, ⟨K', SQ', NN', V'⟩, hget', hcell'⟩ := HCE.out c (by omega)
            cases e'
            have hgc : es.getD c Ent.zero = ⟨K', SQ', NN', V'⟩ := by rw [List.getD_eq_getElem?_getD, hget']; rfl
            have p1 : wr.cell? ⟨b, off + c * 4 + 1, none⟩ = some (.int .u64 SQ') := hcell' 1 _ rfl
            have p1a : ∀ o, (wr.alloc o).cell? ⟨b, off + c * 4 + 1, none⟩ = _ := fun o => oce hbr p1
            have hst := HST.out
            rw [hc, Int.toNat_natCast, hgc] at hst
            dsimp only at hst
            rw [hc] at hn ⊢
            have hcl : (c : Int) < (len : Int) := by omega
            have HC := Lib.hid hc
            clear hget' hcell' hgc hc hn'
            cases hs : decide (SQ' < SQ) with
            | true =>
              rw [if_pos ⟨HKE.out, by omega, .inr (of_decide_eq_true hs)⟩] at hst
              have HS2 := Lib.hid hst
              clear hst
              go_wp2
              go_quiet (fail)
              go_wp2
              go_roundw
              case rel => exact ⟨i + 1, by rw [HS2.out], by go_num, by omega, belowN (HBL.out _) _⟩
              case measure => simp [intOf]; omega
            | false =>
              rw [if_neg (fun h => h.2.2.elim (fun h' => by omega) (of_decide_eq_false hs))] at hst
              have HS2 := Lib.hid hst
              clear hst
              go_wp2
              go_quiet (fail)
              go_wp2
              go_roundw
              case rel => exact ⟨i + 1, by rw [HS2.out], by go_num, by omega, belowN (HBL.out _) _⟩
              case measure => simp [intOf]; omega
    · obtain rfl : i = len := by omega
      have xr := xW.below hbl
      have c0 := xr.c0
      have c1 := xr.c1
      have c2 := xr.c2
      have c3 := xr.c3
      have f0 := xr.f 0
      have f1 := xr.f 1
      have f2 := xr.f 2
      have f3 := xr.f 3
      have bwr : Below w.heap.size w wr := bW.trans (hbl.mono bW.size)
      cases hn : decide (best es key seq i < 0) with
      | true =>
        have hn' := of_decide_eq_true hn
        have hpv : pickUV es (best es key seq i) = .agg #[.string ⟨#[]⟩, .int .u64 0, .int .i64 0, .string ⟨#[]⟩] := by unfold pickUV; rw [if_neg (by omega)]; rfl
        have HPV := Lib.hid (show Value.tuple #[pickUV es (best es key seq i), .bool (decide (0 ≤ best es key seq i))] = .tuple #[.agg #[.string ⟨#[]⟩, .int .u64 0, .int .i64 0, .string ⟨#[]⟩], .bool false] by rw [decide_eq_false (by omega), hpv])
        clear hpv hn'
        go_wp2
        refine bodyPost_ret (by simp [results, Tryz.results56, go_sem, c0, c1, c2, c3]; try rfl) rfl ?_
        exact ⟨congrArg _ HPV.out.symm, (((bwr.setCell (Nat.le_refl _) _).setCell (Nat.le_refl _) _).setCell (Nat.le_refl _) _).setCell (Nat.le_refl _) _⟩
      | false =>
        have hn' := of_decide_eq_false hn
        obtain ⟨c, hc⟩ : ∃ c : Nat, best es key seq i = (c : Int) := ⟨(best es key seq i).toNat, by omega⟩
        obtain ⟨b, off, rfl, -, ⟨K', SQ', NN', V'⟩, hget', hcell'⟩ := HCE.out c (by omega)
        have hgc : es.getD c Ent.zero = ⟨K', SQ', NN', V'⟩ := by rw [List.getD_eq_getElem?_getD, hget']; rfl
        have hsx := HSM.out _ (List.mem_of_getElem? hget')
        have p0 : wr.cell? ⟨b, off + c * 4, none⟩ = some (.string K') := hcell' 0 _ rfl
        have p1 : wr.cell? ⟨b, off + c * 4 + 1, none⟩ = some (.int .u64 SQ') := hcell' 1 _ rfl
        have p2 : wr.cell? ⟨b, off + c * 4 + 2, none⟩ = some (.int .i64 NN') := hcell' 2 _ rfl
        have p3 : wr.cell? ⟨b, off + c * 4 + 3, none⟩ = some (.string V') := hcell' 3 _ rfl
        have hpv : pickUV es (c : Int) = .agg #[.string K', .int .u64 SQ', .int .i64 NN', .string V'] := by unfold pickUV; rw [if_pos (by omega), Int.toNat_natCast, hgc]; rfl
        have HPV := Lib.hid (show Value.tuple #[pickUV es (best es key seq i), .bool (decide (0 ≤ best es key seq i))] = .tuple #[.agg #[.string K', .int .u64 SQ', .int .i64 NN', .string V'], .bool true] by rw [hc, decide_eq_true (by omega), hpv])
        rw [hc] at hn hb0 ⊢
        have hcl : (c : Int) < (i : Int) := by omega
        have CF := Lib.hid (fun W => freshU_any K' SQ' NN' V' W hsx.1 hsx.2)
        unfold ev at CF
        clear hget' hcell' hgc hc hn' hsx hpv
        go_wp2_with (first
          | (go_at_call 92; (with_reducible refine (CF.out _).mono ?_); rintro e w3 ⟨rfl, hb3⟩; have x3 := xr.below hb3; have d0 := x3.c0; have d1 := x3.c1; have d2 := x3.c2; have d3 := x3.c3; have g0 := x3.f 0; have g1 := x3.f 1; have g2 := x3.f 2; have g3 := x3.f 3)
          | fail)
        have b3 : Below w.heap.size w w3 := bwr.trans (hb3.mono bwr.size)
        refine bodyPost_ret (by simp [results, Tryz.results56, go_sem, d0, d1, d2, d3]; try rfl) rfl ?_
        exact ⟨congrArg _ HPV.out.symm, (((b3.setCell (Nat.le_refl _) _).setCell (Nat.le_refl _) _).setCell (Nat.le_refl _) _).setCell (Nat.le_refl _) _⟩
end Go.Proofs.YtmnboiikopkaoaaGreat
