/- Statement WalNames: the walk. -/
import Derived.Test.YtlgcbapgbpofoaaGreatX3
import Derived.Test.YtlgcbapgbpofoaaGreatTI
import Derived.Test.YtlgcbapgbpofoaaGreatXT1
import Derived.Test.YtlgcbapgbpofoaaGreatWO
import Derived.Deep.RegionHeld3
namespace Go.Proofs.YtlgcbapgbpofoaaGreat
open Go.RowKit

theorem lt_cellN {w : World} {b j : Nat} {v : Value} (h : w.cell? ⟨b, j, none⟩ = some v) : b < w.heap.size := by
  rcases Nat.lt_or_ge b w.heap.size with h1 | h1
  · exact h1
  · simp [World.cell?, Array.getElem?_eq_none h1] at h
theorem name_least (z : Nat) : Op.bytesLess (⟨(nameB z).toArray⟩ : ByteArray).data.toList [119] = false := by
  rfl
set_option maxHeartbeats 8000000 in
set_option maxRecDepth 100000 in
theorem walNames_hard (a : Option Addr) (len cap : Nat) (ks : List Int) (oa : Option Addr) (olen ocap : Nat) (ss : List ByteArray) (w : World) (hK : IsIs w a len ks) (hS : IsRowS w oa olen ss) (hl : len ≤ 20) (ho : olen ≤ 20) :
    Calls Tryz.prog 7 #[.slice a len cap, .slice oa olen ocap] w fun e w' => e = .returned (.bool true) ∧ Below w.heap.size w w' := by
  have hkl : ks.length = len := hK.2.1
  have hsl : ss.length = olen := hS.1
  have d1 : decide (20 < (len : Int)) = false := by simp; omega
  have d1' : decide (20 < len) = false := by simp; omega
  have d2 : decide (20 < (olen : Int)) = false := by simp; omega
  have d2' : decide (20 < olen) = false := by simp; omega
  have C0 := Lib.hid (hs_new 0 (by omega) w)
  have CA := Lib.hid alive6_any
  have HK := Lib.hid hK
  have HS := Lib.hid hS
  clear hK hS
  go_enter Tryz.func7, Tryz.ntmps7
  go_wp2_with (fail)
  go_at_call 24
  refine C0.out.mono ?_
  rintro _ w0 ⟨p, rfl, h0, b0⟩
  clear C0
  go_wp2_with (fail)
  go_loopw [6, 7] (fun nv iv wr => ∃ (i c : Nat) (s : St), nv = .int .i64 (c : Int) ∧ iv = .int .i64 (i : Int) ∧ i ≤ len ∧ c ≤ i ∧ Hid (NmInv s c) ∧ Hid (Hs (fun k => k < w.heap.size) w.heap.size p (3 * i) 0 s wr) ∧ Below w.heap.size w wr) (fun _ iv _ => len - (intOf iv).toNat)
  case atStart => exact ⟨0, 0, _, rfl, rfl, Nat.zero_le _, Nat.le_refl _, Lib.hid new_inv, Lib.hid h0, b0⟩
  case round =>
    obtain ⟨i, c, s, rfl, rfl, hi0, hci, HIN, HHS, hbl⟩ := hrel
    by_cases hlt : i < len
    · obtain ⟨b, off, rfl, hcell⟩ : ∃ b off, a = some ⟨b, off, none⟩ ∧ w.cell? ⟨b, off + i, none⟩ = some (.int .i64 (ks[i]'(by omega))) := by
        rcases HK.out.2.2.2 with h0 | ⟨b, off, e, h1⟩
        · rw [h0] at hkl; simp at hkl; omega
        · exact ⟨b, off, e, h1 i (by omega)⟩
      have hbw : b < w.heap.size := World.block_lt_of_cell? w _ hcell
      have q0 := (hbl.cell (p := ⟨b, off + i, none⟩) hbw).trans hcell
      generalize ks[i]'(by omega) = z at q0
      have hil : (i : Int) < (len : Int) := by omega
      clear hcell
      by_cases hz0 : 0 ≤ z
      · have e1 : decide (z < 0) = false := by simp; omega
        by_cases hz1 : z ≤ 99999999
        · have e2 : decide (99999999 < z) = false := by simp; omega
          obtain ⟨num, rfl⟩ : ∃ num : Nat, z = (num : Int) := ⟨z.toNat, by omega⟩
          have C1 := Lib.hid (logCreate_any HHS.out (by omega) num (by omega))
          have HML := Lib.hid (mkLog_inv HIN.out num (by omega))
          generalize mkLog s num = M at C1 HML
          obtain ⟨s', E⟩ := M
          simp only at C1 HML
          have hB := HHS.out.size
          go_wp2_with (fail)
          go_at_call 31
          refine C1.out.mono ?_
          rintro _ w1 ⟨pv, rfl, b1, k1, hor⟩
          have hs1 : Hid (Hs (fun k => k < w.heap.size) w.heap.size p (3 * i + 3) 0 s' w1) := by
            rcases hor with ⟨-, -, h⟩ | ⟨-, L, -, -, -, h⟩
            · exact Lib.hid h
            · exact Lib.hid (h.fewer fun k hk => .inl hk)
          have bl1 := hbl.trans b1
          clear hor k1 C1
          rcases HML.out with ⟨rfl, hin⟩ | ⟨rfl, hin⟩
          · have HN := Lib.hid hin
            clear hin HML
            go_wp2_with (fail)
            go_roundw
            case rel => exact ⟨i + 1, c + 1, s', by go_num, by go_num, by omega, by omega, HN, Lib.hid (hs1.out.up (by omega) (Nat.le_refl _)), bl1⟩
            case measure => simp [intOf]; omega
          · have HN := Lib.hid hin
            clear hin HML
            go_wp2_with (fail)
            go_roundw
            case rel => exact ⟨i + 1, c, s', rfl, by go_num, by omega, by omega, HN, Lib.hid (hs1.out.up (by omega) (Nat.le_refl _)), bl1⟩
            case measure => simp [intOf]; omega
        · have e2 : decide (99999999 < z) = true := by simp; omega
          go_wp2_with (go_at_call 10; refine (CA.out _).mono ?_; rintro _ w3 ⟨rfl, b3⟩)
          go_ret
          exact ⟨rfl, hbl.trans (b3.mono hbl.size)⟩
      · have e1 : decide (z < 0) = true := by simp; omega
        go_wp2_with (go_at_call 10; refine (CA.out _).mono ?_; rintro _ w3 ⟨rfl, b3⟩)
        go_ret
        exact ⟨rfl, hbl.trans (b3.mono hbl.size)⟩
    · obtain rfl : i = len := by omega
      go_wp2_with (fail)
      go_loopw [10] (fun iv wr => ∃ (j : Nat) (s : St), iv = .int .i64 (j : Int) ∧ j ≤ olen ∧ Hid (NmInv s c) ∧ Hid (Hs (fun k => k < w.heap.size) w.heap.size p (60 + 2 * j) 0 s wr) ∧ Below w.heap.size w wr) (fun iv _ => olen - (intOf iv).toNat)
      case atStart => exact ⟨0, s, rfl, Nat.zero_le _, HIN, Lib.hid (HHS.out.up (by omega) (Nat.le_refl _)), hbl⟩
      case round =>
        clear HIN HHS hbl
        obtain ⟨j, s2, rfl, hj0, HIN, HHS, hbl⟩ := hrel
        by_cases hlj : j < olen
        · obtain ⟨b, off, rfl, hbw, hcell⟩ : ∃ b off, oa = some ⟨b, off, none⟩ ∧ b < w.heap.size ∧ w.cell? ⟨b, off + j, none⟩ = some (.string (ss[j]'(by omega))) := by
            rcases HS.out.2.2 with h0 | ⟨b, off, e, h1, h2⟩
            · omega
            · exact ⟨b, off, e, h1, h2 j (by omega)⟩
          have q0 := (hbl.cell (p := ⟨b, off + j, none⟩) hbw).trans hcell
          have hsz := HS.out.2.1 (ss[j]'(by omega)) (List.getElem_mem _)
          generalize ss[j]'(by omega) = S at q0 hsz
          have hjl : (j : Int) < (olen : Int) := by omega
          clear hcell
          by_cases h9 : S.size = 9
          · have e9 : ((S.size : Int) != 9) = false := by rw [h9]; rfl
            go_wp2_with (fail)
            go_roundw
            case rel => exact ⟨j + 1, s2, by go_num, by omega, HIN, Lib.hid (HHS.out.up (by omega) (Nat.le_refl _)), hbl⟩
            case measure => simp [intOf]; omega
          · have e9 : ((S.size : Int) != 9) = true := by simp; omega
            have C2 := Lib.hid (hs_create HHS.out (by omega) S hsz)
            have HN2 := Lib.hid (other_inv HIN.out S.data.toList (by rw [Array.length_toList]; exact h9))
            generalize s2.create S.data.toList = M at C2 HN2
            obtain ⟨s', E⟩ := M
            simp only at C2 HN2
            go_wp2_with (go_at_call 49; refine C2.out.mono ?_; rintro _ w1 ⟨rfl, hs1, b1, k1⟩)
            go_roundw
            case rel => exact ⟨j + 1, s', by go_num, by omega, HN2, Lib.hid (hs1.up (by omega) (Nat.le_refl _)), hbl.trans b1⟩
            case measure => simp [intOf]; omega
        · obtain rfl : j = olen := by omega
          have hnl : s2.names.length ≤ 1000000 := by
            obtain ⟨r, -, -, -, h4, -⟩ := HHS.out
            have := h4.nowl
            unfold St.names
            rw [if_pos HIN.out.on, List.length_map]
            omega
          have hnm : s2.names = s2.now.map (·.1) := by unfold St.names; rw [if_pos HIN.out.on]
          have hzr := segs_rise HIN.out.rise
          have hzc := HIN.out.cnt
          have hzs := segs_small (s2.now.map (·.1))
          have C3 := segments_any (.pointer (some ⟨p, 0, none⟩)) s2.names hnl wr ((hs_names HHS.out (by omega)).mono (by
            rintro _ w' ⟨v, rfl, h1, -, h3⟩
            exact ⟨v, rfl, h1, h3⟩))
          rw [hnm] at C3
          generalize segs (s2.now.map (·.1)) = Z at C3 hzr hzc hzs
          obtain rfl : Z.length = c := hzc
          have C3 := Lib.hid C3
          have HZ := Lib.hid (And.intro hzr hzs)
          clear hnl hnm hzr hzs HHS HIN
          go_wp2_with (fail)
          go_at_call 41
          refine C3.out.mono ?_
          rintro _ w5 ⟨U, rfl, hU, -, b5⟩
          have bl5 := hbl.trans (b5.mono hbl.size)
          obtain ⟨aU, cU, rfl, hcU⟩ := row_readN hU
          have HCU := Lib.hid hcU
          have hz20 : Z.length ≤ 20 := by omega
          clear hcU hU C3 b5
          go_wp2_with (fail)
          go_loopw [12] (fun iv wr => ∃ t : Nat, iv = .int .i64 (t : Int) ∧ t ≤ Z.length ∧ Below w5.heap.size w5 wr) (fun iv _ => Z.length - (intOf iv).toNat)
          case atStart => exact ⟨0, rfl, Nat.zero_le _, Below.refl _ _⟩
          case round =>
            clear hbl
            obtain ⟨t, rfl, ht0, hbl⟩ := hrel
            by_cases hlt : t < Z.length
            · obtain ⟨gU, rfl, hgU, cUs⟩ : ∃ g, aU = some ⟨g, 0, none⟩ ∧ g < w5.heap.size ∧ ∀ j (h : j < Z.length), w5.cell? ⟨g, j, none⟩ = some (.int .i64 (Z[j] : Int)) := by
                rcases HCU.out with h0 | ⟨g, e1, e2, e3⟩
                · omega
                · exact ⟨g, e1, e2, fun j h => e3 j _ (by unfold natVals; rw [List.getElem?_map, List.getElem?_eq_getElem h]; rfl)⟩
              have hzt := HZ.out.2 Z[t] (List.getElem_mem hlt)
              have u0 := (hbl.cell (p := ⟨gU, t, none⟩) hgU).trans (cUs t hlt)
              have htl : (t : Int) < (Z.length : Int) := by omega
              obtain ⟨z, hz⟩ : ∃ z, Z[t] = z := ⟨_, rfl⟩
              rw [hz] at u0 hzt
              have CNM := fun W => name_any (z : Int) W (by omega) (by omega)
              rw [show ((z : Int) % 100000000).toNat = z by omega] at CNM
              obtain ⟨NM, hNM⟩ : ∃ NM : ByteArray, (⟨(nameB z).toArray⟩ : ByteArray) = NM := ⟨_, rfl⟩
              have hNs : NM.size = 9 := by rw [← hNM]; rfl
              rw [hNM] at CNM
              have CNM := Lib.hid CNM
              have hbr : gU < wr.heap.size := Nat.lt_of_lt_of_le hgU hbl.size
              have hNL : Op.bytesLess NM.toList [119] = false := by
                rw [ByteArray.toList_eq, ← hNM]
                exact name_least z
              have hN9 : ((NM.size : Int) != 9) = false := by rw [hNs]; rfl
              have HB5 := Lib.hid bl5
              have HBL := Lib.hid hbl
              have htn : t + 1 ≤ Z.length := hlt
              have ht20 : (t : Int) ≤ 20 := by omega
              have ht00 : (0 : Int) ≤ (t : Int) := by omega
              by_cases ht1 : t = 0
              · have d0 : decide (0 < t) = false := by simp; omega
                have u1 : wr.drew.cell? ⟨gU, t, none⟩ = some (.int .i64 (z : Int)) := u0
                clear bl5 hbl hgU cUs ht0 hzt hz hNM hz20 HZ HCU hkl hsl d1 d1' d2 d2' hl ho ht1 hlt
                go_wp2_with (fail)
                refine wp_region_noPanic ?_
                refine wp_region_held (S := fun w' => w'.cell? ⟨gU, t, none⟩ = some (.int .i64 (z : Int))) (by kernel_rfl) ?_
                refine wpAnyH_take (i := 0) (v := ?_) rfl (by kernel_rfl) (by kernel_rfl) (by kernel_rfl) (fun _ _ _ h => h) (Or.inl ⟨by rfl, ?_⟩) u1 ?_
                rotate_left
                focus (simp only [List.getElem_toArray, List.getElem_cons_zero]; intro w' hS; first | (go_simp; done) | (go_simp; with_reducible rfl))
                simp only [List.getElem_toArray, List.getElem_cons_zero, Act.put, List.setIfInBounds_toArray, List.set_cons_zero, List.set_cons_succ]
                refine wpAnyH_take (i := 1) (v := ?_) rfl (by kernel_rfl) (by kernel_rfl) (by kernel_rfl) (fun _ _ _ h => h) (Or.inl ⟨by rfl, ?_⟩) u1 ?_
                rotate_left
                focus (simp only [List.getElem_toArray, List.getElem_cons_succ, List.getElem_cons_zero]; intro w' hS; first | (go_simp; done) | (go_simp; with_reducible rfl))
                simp only [List.getElem_toArray, List.getElem_cons_succ, List.getElem_cons_zero, Act.put, List.setIfInBounds_toArray, List.set_cons_zero, List.set_cons_succ]
                refine wpAnyH_take (i := 2) (v := ?_) rfl (by kernel_rfl) (by kernel_rfl) (by kernel_rfl) (fun _ _ _ h => h) (Or.inl ⟨by rfl, ?_⟩) u1 ?_
                rotate_left
                focus (simp only [List.getElem_toArray, List.getElem_cons_succ, List.getElem_cons_zero]; intro w' hS; first | (go_simp; done) | (go_simp; with_reducible rfl))
                simp only [List.getElem_toArray, List.getElem_cons_succ, List.getElem_cons_zero, Act.put, List.setIfInBounds_toArray, List.set_cons_zero, List.set_cons_succ]
                refine wpAnyH_take (i := 3) (v := undef) rfl (by kernel_rfl) (by kernel_rfl) (by kernel_rfl) (fun _ _ _ h => h) (Or.inr ⟨by rfl, rfl⟩) u1 ?_
                simp only [List.getElem_toArray, List.getElem_cons_succ, List.getElem_cons_zero, Act.put, List.setIfInBounds_toArray, List.set_cons_zero, List.set_cons_succ]
                refine wpAnyH_take (i := 4) (v := undef) rfl (by kernel_rfl) (by kernel_rfl) (by kernel_rfl) (fun _ _ _ h => h) (Or.inr ⟨by rfl, rfl⟩) u1 ?_
                simp only [List.getElem_toArray, List.getElem_cons_succ, List.getElem_cons_zero, Act.put, List.setIfInBounds_toArray, List.set_cons_zero, List.set_cons_succ]
                refine wpAnyH_take (i := 5) (v := undef) rfl (by kernel_rfl) (by kernel_rfl) (by kernel_rfl) (fun _ _ _ h => h) (Or.inr ⟨by rfl, rfl⟩) u1 ?_
                simp only [List.getElem_toArray, List.getElem_cons_succ, List.getElem_cons_zero, Act.put, List.setIfInBounds_toArray, List.set_cons_zero, List.set_cons_succ]
                refine wpAnyH_take (i := 6) (v := undef) rfl (by kernel_rfl) (by kernel_rfl) (by kernel_rfl) (fun _ _ _ h => h) (Or.inr ⟨by rfl, rfl⟩) u1 ?_
                simp only [List.getElem_toArray, List.getElem_cons_succ, List.getElem_cons_zero, Act.put, List.setIfInBounds_toArray, List.set_cons_zero, List.set_cons_succ]
                refine wpAnyH_take (i := 7) (v := undef) rfl (by kernel_rfl) (by kernel_rfl) (by kernel_rfl) (fun _ _ _ h => h) (Or.inr ⟨by rfl, rfl⟩) u1 ?_
                simp only [List.getElem_toArray, List.getElem_cons_succ, List.getElem_cons_zero, Act.put, List.setIfInBounds_toArray, List.set_cons_zero, List.set_cons_succ]
                refine wpAnyH_take (i := 8) (v := undef) rfl (by kernel_rfl) (by kernel_rfl) (by kernel_rfl) (fun _ _ _ h => h) (Or.inr ⟨by rfl, rfl⟩) u1 ?_
                simp only [List.getElem_toArray, List.getElem_cons_succ, List.getElem_cons_zero, Act.put, List.setIfInBounds_toArray, List.set_cons_zero, List.set_cons_succ]
                refine wpAnyH_take (i := 9) (v := undef) rfl (by kernel_rfl) (by kernel_rfl) (by kernel_rfl) (fun _ _ _ h => h) (Or.inr ⟨by rfl, rfl⟩) u1 ?_
                simp only [List.getElem_toArray, List.getElem_cons_succ, List.getElem_cons_zero, Act.put, List.setIfInBounds_toArray, List.set_cons_zero, List.set_cons_succ]
                refine wpAnyH_take (i := 10) (v := undef) rfl (by kernel_rfl) (by kernel_rfl) (by kernel_rfl) (fun _ _ _ h => h) (Or.inr ⟨by rfl, rfl⟩) u1 ?_
                simp only [List.getElem_toArray, List.getElem_cons_succ, List.getElem_cons_zero, Act.put, List.setIfInBounds_toArray, List.set_cons_zero, List.set_cons_succ]
                refine wpAnyH_take (i := 11) (v := undef) rfl (by kernel_rfl) (by kernel_rfl) (by kernel_rfl) (fun _ _ _ h => h) (Or.inr ⟨by rfl, rfl⟩) u1 ?_
                simp only [List.getElem_toArray, List.getElem_cons_succ, List.getElem_cons_zero, Act.put, List.setIfInBounds_toArray, List.set_cons_zero, List.set_cons_succ]
                refine wpAnyH_take (i := 12) (v := undef) rfl (by kernel_rfl) (by kernel_rfl) (by kernel_rfl) (fun _ _ _ h => h) (Or.inr ⟨by rfl, rfl⟩) u1 ?_
                simp only [List.getElem_toArray, List.getElem_cons_succ, List.getElem_cons_zero, Act.put, List.setIfInBounds_toArray, List.set_cons_zero, List.set_cons_succ]
                refine wpAnyH_take (i := 13) (v := ?_) rfl (by kernel_rfl) (by kernel_rfl) (by kernel_rfl) (fun _ _ _ h => h) (Or.inl ⟨by rfl, ?_⟩) u1 ?_
                rotate_left
                focus (simp only [List.getElem_toArray, List.getElem_cons_succ, List.getElem_cons_zero]; intro w' hS; first | (go_simp; done) | (go_simp; with_reducible rfl))
                simp only [List.getElem_toArray, List.getElem_cons_succ, List.getElem_cons_zero, Act.put, List.setIfInBounds_toArray, List.set_cons_zero, List.set_cons_succ]
                refine wpAnyH_take (i := 14) (v := ?_) rfl (by kernel_rfl) (by kernel_rfl) (by kernel_rfl) (fun _ _ _ h => h) (Or.inl ⟨by rfl, ?_⟩) u1 ?_
                rotate_left
                focus (simp only [List.getElem_toArray, List.getElem_cons_succ, List.getElem_cons_zero]; intro w' hS; first | (go_simp; done) | (go_simp; with_reducible rfl))
                simp only [List.getElem_toArray, List.getElem_cons_succ, List.getElem_cons_zero, Act.put, List.setIfInBounds_toArray, List.set_cons_zero, List.set_cons_succ]
                refine wpAnyH_take (i := 15) (v := ?_) rfl (by kernel_rfl) (by kernel_rfl) (by kernel_rfl) (fun _ _ _ h => h) (Or.inl ⟨by rfl, ?_⟩) u1 ?_
                rotate_left
                focus (simp only [List.getElem_toArray, List.getElem_cons_succ, List.getElem_cons_zero]; intro w' hS; first | (go_simp; done) | (go_simp; with_reducible rfl))
                simp only [List.getElem_toArray, List.getElem_cons_succ, List.getElem_cons_zero, Act.put, List.setIfInBounds_toArray, List.set_cons_zero, List.set_cons_succ]
                refine wpAnyH_take (i := 16) (v := ?_) rfl (by kernel_rfl) (by kernel_rfl) (by kernel_rfl) (fun _ _ _ h => h) (Or.inl ⟨by rfl, ?_⟩) u1 ?_
                rotate_left
                focus (simp only [List.getElem_toArray, List.getElem_cons_succ, List.getElem_cons_zero]; intro w' hS; first | (go_simp; done) | (go_simp; with_reducible rfl))
                simp only [List.getElem_toArray, List.getElem_cons_succ, List.getElem_cons_zero, Act.put, List.setIfInBounds_toArray, List.set_cons_zero, List.set_cons_succ]
                refine wpAnyH_take (i := 17) (v := ?_) rfl (by kernel_rfl) (by kernel_rfl) (by kernel_rfl) (fun _ _ _ h => h) (Or.inl ⟨by rfl, ?_⟩) u1 ?_
                rotate_left
                focus (simp only [List.getElem_toArray, List.getElem_cons_succ, List.getElem_cons_zero]; intro w' hS; first | (go_simp; done) | (go_simp; with_reducible rfl))
                simp only [List.getElem_toArray, List.getElem_cons_succ, List.getElem_cons_zero, Act.put, List.setIfInBounds_toArray, List.set_cons_zero, List.set_cons_succ]
                refine wpAnyH_take (i := 18) (v := ?_) rfl (by kernel_rfl) (by kernel_rfl) (by kernel_rfl) (fun _ _ _ h => h) (Or.inl ⟨by rfl, ?_⟩) u1 ?_
                rotate_left
                focus (simp only [List.getElem_toArray, List.getElem_cons_succ, List.getElem_cons_zero]; intro w' hS; first | (go_simp; done) | (go_simp; with_reducible rfl))
                simp only [List.getElem_toArray, List.getElem_cons_succ, List.getElem_cons_zero, Act.put, List.setIfInBounds_toArray, List.set_cons_zero, List.set_cons_succ]
                refine wpAnyH_ready (rs := [19]) (by kernel_rfl) (by simp) ?_
                refine AllReadyH.cons rfl (fun K hK => ?_) AllReadyH.nil
                simp only [List.getElem_toArray, List.getElem_cons_succ, List.getElem_cons_zero]
                go_simp
                refine (CNM.out _).mono ?_
                rintro e w6 ⟨rfl, b6⟩
                have u6 : w6.cell? ⟨gU, t, none⟩ = some (.int .i64 (z : Int)) := (b6.cell (p := ⟨gU, t, none⟩) (lt_cellN u1)).trans u1
                dsimp only
                refine hK.out _ _ u6 (fun _ => ?_)
                try simp only [List.getElem_toArray, List.getElem_cons_succ, List.getElem_cons_zero, Act.put, List.setIfInBounds_toArray, List.set_cons_zero, List.set_cons_succ]
                refine wpAnyH_take (i := 20) (v := ?_) rfl (by kernel_rfl) (by kernel_rfl) (by kernel_rfl) (fun _ _ _ h => h) (Or.inl ⟨by rfl, ?_⟩) u6 ?_
                rotate_left
                focus (simp only [List.getElem_toArray, List.getElem_cons_succ, List.getElem_cons_zero]; intro w' hS; first | (go_simp; done) | (go_simp; with_reducible rfl))
                simp only [List.getElem_toArray, List.getElem_cons_succ, List.getElem_cons_zero, Act.put, List.setIfInBounds_toArray, List.set_cons_zero, List.set_cons_succ]
                refine wpAnyH_take (i := 21) (v := ?_) rfl (by kernel_rfl) (by kernel_rfl) (by kernel_rfl) (fun _ _ _ h => h) (Or.inl ⟨by rfl, ?_⟩) u6 ?_
                rotate_left
                focus (simp only [List.getElem_toArray, List.getElem_cons_succ, List.getElem_cons_zero]; intro w' hS; first | (go_simp; done) | (go_simp; with_reducible rfl))
                simp only [List.getElem_toArray, List.getElem_cons_succ, List.getElem_cons_zero, Act.put, List.setIfInBounds_toArray, List.set_cons_zero, List.set_cons_succ]
                refine wpAnyH_take (i := 22) (v := ?_) rfl (by kernel_rfl) (by kernel_rfl) (by kernel_rfl) (fun _ _ _ h => h) (Or.inl ⟨by rfl, ?_⟩) u6 ?_
                rotate_left
                focus (simp only [List.getElem_toArray, List.getElem_cons_succ, List.getElem_cons_zero]; intro w' hS; first | (go_simp; done) | (go_simp; with_reducible rfl))
                simp only [List.getElem_toArray, List.getElem_cons_succ, List.getElem_cons_zero, Act.put, List.setIfInBounds_toArray, List.set_cons_zero, List.set_cons_succ]
                refine wpAnyH_take (i := 23) (v := ?_) rfl (by kernel_rfl) (by kernel_rfl) (by kernel_rfl) (fun _ _ _ h => h) (Or.inl ⟨by rfl, ?_⟩) u6 ?_
                rotate_left
                focus (simp only [List.getElem_toArray, List.getElem_cons_succ, List.getElem_cons_zero]; intro w' hS; first | (go_simp; done) | (go_simp; with_reducible rfl))
                simp only [List.getElem_toArray, List.getElem_cons_succ, List.getElem_cons_zero, Act.put, List.setIfInBounds_toArray, List.set_cons_zero, List.set_cons_succ]
                refine wpAnyH_take (i := 24) (v := ?_) rfl (by kernel_rfl) (by kernel_rfl) (by kernel_rfl) (fun _ _ _ h => h) (Or.inl ⟨by rfl, ?_⟩) u6 ?_
                rotate_left
                focus (simp only [List.getElem_toArray, List.getElem_cons_succ, List.getElem_cons_zero]; intro w' hS; first | (go_simp; done) | (go_simp; with_reducible rfl))
                simp only [List.getElem_toArray, List.getElem_cons_succ, List.getElem_cons_zero, Act.put, List.setIfInBounds_toArray, List.set_cons_zero, List.set_cons_succ]
                refine wpAnyH_take (i := 25) (v := ?_) rfl (by kernel_rfl) (by kernel_rfl) (by kernel_rfl) (fun _ _ _ h => h) (Or.inl ⟨by rfl, ?_⟩) u6 ?_
                rotate_left
                focus (simp only [List.getElem_toArray, List.getElem_cons_succ, List.getElem_cons_zero]; intro w' hS; first | (go_simp; done) | (go_simp; with_reducible rfl))
                simp only [List.getElem_toArray, List.getElem_cons_succ, List.getElem_cons_zero, Act.put, List.setIfInBounds_toArray, List.set_cons_zero, List.set_cons_succ]
                refine wpAnyH_take (i := 26) (v := ?_) rfl (by kernel_rfl) (by kernel_rfl) (by kernel_rfl) (fun _ _ _ h => h) (Or.inl ⟨by rfl, ?_⟩) u6 ?_
                rotate_left
                focus (simp only [List.getElem_toArray, List.getElem_cons_succ, List.getElem_cons_zero]; intro w' hS; first | (go_simp; done) | (go_simp; with_reducible rfl))
                simp only [List.getElem_toArray, List.getElem_cons_succ, List.getElem_cons_zero, Act.put, List.setIfInBounds_toArray, List.set_cons_zero, List.set_cons_succ]
                refine wpAnyH_ready (rs := [27]) (by kernel_rfl) (by simp) ?_
                refine AllReadyH.cons rfl (fun K hK => ?_) AllReadyH.nil
                simp only [List.getElem_toArray, List.getElem_cons_succ, List.getElem_cons_zero]
                go_simp
                refine (CNM.out _).mono ?_
                rintro e w7 ⟨rfl, b7⟩
                have u7 : w7.cell? ⟨gU, t, none⟩ = some (.int .i64 (z : Int)) := (b7.cell (p := ⟨gU, t, none⟩) (lt_cellN u6)).trans u6
                dsimp only
                refine hK.out _ _ u7 (fun _ => ?_)
                try simp only [List.getElem_toArray, List.getElem_cons_succ, List.getElem_cons_zero, Act.put, List.setIfInBounds_toArray, List.set_cons_zero, List.set_cons_succ]
                refine wpAnyH_take (i := 28) (v := ?_) rfl (by kernel_rfl) (by kernel_rfl) (by kernel_rfl) (fun _ _ _ h => h) (Or.inl ⟨by rfl, ?_⟩) u7 ?_
                rotate_left
                focus (simp only [List.getElem_toArray, List.getElem_cons_succ, List.getElem_cons_zero]; intro w' hS; first | (go_simp; done) | (go_simp; with_reducible rfl))
                simp only [List.getElem_toArray, List.getElem_cons_succ, List.getElem_cons_zero, Act.put, List.setIfInBounds_toArray, List.set_cons_zero, List.set_cons_succ]
                refine wpAnyH_take (i := 29) (v := ?_) rfl (by kernel_rfl) (by kernel_rfl) (by kernel_rfl) (fun _ _ _ h => h) (Or.inl ⟨by rfl, ?_⟩) u7 ?_
                rotate_left
                focus (simp only [List.getElem_toArray, List.getElem_cons_succ, List.getElem_cons_zero]; intro w' hS; first | (go_simp; done) | (go_simp; with_reducible rfl))
                simp only [List.getElem_toArray, List.getElem_cons_succ, List.getElem_cons_zero, Act.put, List.setIfInBounds_toArray, List.set_cons_zero, List.set_cons_succ]
                refine wpAnyH_take (i := 30) (v := ?_) rfl (by kernel_rfl) (by kernel_rfl) (by kernel_rfl) (fun _ _ _ h => h) (Or.inl ⟨by rfl, ?_⟩) u7 ?_
                rotate_left
                focus (simp only [List.getElem_toArray, List.getElem_cons_succ, List.getElem_cons_zero]; intro w' hS; first | (go_simp; done) | (go_simp; with_reducible rfl))
                simp only [List.getElem_toArray, List.getElem_cons_succ, List.getElem_cons_zero, Act.put, List.setIfInBounds_toArray, List.set_cons_zero, List.set_cons_succ]
                refine wpAnyH_done (by kernel_rfl) ?_ _
                refine NoPanic.normal ?_
                go_wp2
                go_roundw
                case rel => exact ⟨t + 1, by go_num, by omega, ((HBL.out.drew).trans (b6.mono HBL.out.size)).trans (b7.mono (Nat.le_trans HBL.out.size b6.size))⟩
                case measure => simp [intOf]; omega
              · have d0 : decide (0 < t) = true := by simp; omega
                obtain ⟨k, hk⟩ : ∃ k, t = k + 1 := ⟨t - 1, by omega⟩
                have hkl2 : k < Z.length := by omega
                have hrise := List.pairwise_iff_getElem.1 HZ.out.1 k t hkl2 hlt (by omega)
                have v0 := (hbl.cell (p := ⟨gU, k, none⟩) hgU).trans (cUs k hkl2)
                rw [hz] at hrise
                obtain ⟨y, hy⟩ : ∃ y, Z[k] = y := ⟨_, rfl⟩
                rw [hy] at hrise v0
                have dle : decide ((z : Int) ≤ (y : Int)) = false := by simp; omega
                have dle2 : decide (z ≤ y) = false := by simp; omega
                have hij : (t : Int) - 1 = (k : Int) := by omega
                have hkI : (k : Int) < (Z.length : Int) := by omega
                have ht21 : (1 : Int) ≤ (t : Int) := by omega
                have hw3 : IntKind.i64.wrap (k : Int) = (k : Int) := by rw [IntKind.wrap_i64]; omega
                have hk00 : (0 : Int) ≤ (k : Int) := by omega
                clear bl5 hbl hgU cUs ht0 hzt hz hNM hz20 HZ HCU hkl hsl d1 d1' d2 d2' hl ho ht1 hk hrise hy hkl2
                go_wp2_with (fail)
                go_region_held3 (fun w' => w'.cell? ⟨gU, t, none⟩ = some (.int .i64 (z : Int)) ∧ w'.cell? ⟨gU, k, none⟩ = some (.int .i64 (y : Int))) (first | go_keep | exact ⟨u7, v7⟩ | exact ⟨u6, v6⟩) (first | (go_at_call 19; (with_reducible refine (CNM.out _).mono ?_); rintro e w6 ⟨rfl, b6⟩; have u6 := (b6.cell (p := ⟨gU, t, none⟩) hbr).trans u0; have v6 := (b6.cell (p := ⟨gU, k, none⟩) hbr).trans v0) | (go_at_call 19; (with_reducible refine (CNM.out _).mono ?_); rintro e w7 ⟨rfl, b7⟩; have u7 := (b7.cell (p := ⟨gU, t, none⟩) (lt_cellN u6)).trans u6; have v7 := (b7.cell (p := ⟨gU, k, none⟩) (lt_cellN v6)).trans v6) | fail)
                all_goals go_wp2
                all_goals go_roundw
                all_goals first
                  | exact ⟨t + 1, by go_num, htn, ((HBL.out.drew).trans (b6.mono HBL.out.size)).trans (b7.mono (Nat.le_trans HBL.out.size b6.size))⟩
                  | (simp [intOf]; omega)
            · obtain rfl : Z.length = t := by omega
              have HB5 := Lib.hid bl5
              have HBL := Lib.hid hbl
              clear bl5 hbl
              go_wp2_with (first | (go_at_call 10; (with_reducible refine (CA.out _).mono ?_); rintro _ w6 ⟨rfl, b6⟩) | fail)
              go_ret
              have k1 := HB5.out.trans (HBL.out.mono HB5.out.size)
              exact ⟨rfl, k1.trans (b6.mono k1.size)⟩
set_option maxHeartbeats 1000000 in
theorem walNames_walk (a : Option Addr) (len cap : Nat) (ks : List Int) (oa : Option Addr) (olen ocap : Nat) (ss : List ByteArray) (w : World) (hK : IsIs w a len ks) (hS : IsRowS w oa olen ss) :
    Calls Tryz.prog 7 #[.slice a len cap, .slice oa olen ocap] w fun e w' => e = .returned (.bool true) ∧ Below w.heap.size w w' := by
  have CA := Lib.hid alive6_any
  by_cases hl : len ≤ 20
  · by_cases ho : olen ≤ 20
    · exact walNames_hard a len cap ks oa olen ocap ss w hK hS hl ho
    · have d1 : decide (20 < (len : Int)) = false := by simp; omega
      have d2 : decide (20 < (olen : Int)) = true := by simp; omega
      clear hK hS
      go_enter Tryz.func7, Tryz.ntmps7
      go_wp2_with (first | (go_at_call 10; (with_reducible refine (CA.out _).mono ?_); rintro _ w6 ⟨rfl, b6⟩) | fail)
      go_ret
      exact ⟨rfl, b6⟩
  · have d1 : decide (20 < (len : Int)) = true := by simp; omega
    clear hK hS
    go_enter Tryz.func7, Tryz.ntmps7
    go_wp2_with (first | (go_at_call 10; (with_reducible refine (CA.out _).mono ?_); rintro _ w6 ⟨rfl, b6⟩) | fail)
    go_ret
    exact ⟨rfl, b6⟩
end Go.Proofs.YtlgcbapgbpofoaaGreat
