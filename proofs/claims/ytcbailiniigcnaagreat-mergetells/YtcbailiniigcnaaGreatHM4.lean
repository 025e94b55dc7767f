/- container/heap over merge's heads: down. -/
import Derived.Test.YtcbailiniigcnaaGreatHMA
namespace Go.Proofs.YtcbailiniigcnaaGreat
open Go.ChangeShapes Go.WideShapes Go.ChangeAt Go.Deep Go.RowKit Go.Lib

theorem swH_behind {d : List Hd} {i j m n : Nat} (hi : i < n) (hj : j < n) (hl : n ≤ d.length) (hm : n ≤ m) : (swH d i j).getD m Hd.zero = d.getD m Hd.zero := by
  rw [swH_get d i j m (by omega) (by omega), if_neg (by omega), if_neg (by omega)]
/-- Some truth is told. -/
def DownB (e : Ending) : Prop := ∃ b, e = .returned (.bool b)
set_option maxHeartbeats 8000000 in
set_option maxRecDepth 100000 in
theorem down_any (B p i0 n : Nat) (v : Value) (H : List Hd) (w : World) (h : HpI B w p v H) (hl : 0 < H.length) (hnl : n ≤ H.length) (hd : HeapDn H n i0) (hN : H.length ≤ 1000000) (hi : i0 ≤ 1000000) :
    Calls Tryz.prog 122 #[.iface 100 (.pointer (some ⟨p, 0, none⟩)), .int .i64 (i0 : Int), .int .i64 (n : Int)] w fun e w' => DownB e ∧ ∃ H', HpI B w' p v H' ∧ H'.Perm H ∧ HeapH H' n ∧ (∀ m, n ≤ m → H'.getD m Hd.zero = H.getD m Hd.zero) ∧ Turn (hblk p v) w w' := by
  obtain ⟨L, hL⟩ : ∃ L, H.length = L := ⟨_, rfl⟩
  have HN := Lib.hid hL
  have hN2 : L ≤ 1000000 := hL ▸ hN
  have hnL : n ≤ L := hL ▸ hnl
  have hl2 : 0 < L := hL ▸ hl
  have HL2 := Lib.hid hl2
  clear hL
  go_enter Tryz.func122, Tryz.ntmps122
  go_wp2
  go_loopw [7] (fun rv wr => ∃ (r : Nat) (K : List Hd), rv = .int .i64 (r : Int) ∧ r ≤ 1000000 ∧ K.Perm H ∧ HeapDn K n r ∧ (∀ m, n ≤ m → K.getD m Hd.zero = H.getD m Hd.zero) ∧ HpI B wr p v K ∧ Turn (hblk p v) w wr) (fun rv _ => 1000000 - (Go.RowKit.intOf rv).toNat)
  case atStart => exact ⟨i0, H, rfl, hi, .refl _, hd, fun _ _ => rfl, h, Turn.refl _ _⟩
  case round =>
    obtain ⟨r, K, rfl, hr, hp, hdn, hbe, hh, ht⟩ := hrel
    have hKl := hp.length_eq.trans HN.out
    obtain ⟨g, c0, hv, hgp, -, -, -⟩ := hh.open (by rw [hKl]; exact HL2.out)
    have hcell := hh.at_.cell
    rw [hKl] at hv
    rw [hv] at hcell
    have CL := Lib.hid (fun W (h : HpI B W p v K) i j hi hj => hless_at h hv hKl i j hi hj)
    have CS := Lib.hid (fun W (h : HpI B W p v K) i j hi hj => hswap_at h hv hKl i j hi hj)
    have MC := Lib.hid (show ∀ W, HpI B W p v K → W.cell? ⟨p, 0, none⟩ = some (.slice (some ⟨g, 0, none⟩) L c0) from fun W h => by have := h.at_.cell; rw [hv] at this; exact this)
    have HV := Lib.hid hv
    clear hv
    have HH := Lib.hid hh
    have HT := Lib.hid ht
    have HP := Lib.hid hp
    have HDN := Lib.hid hdn
    have HBE := Lib.hid hbe
    have HKL := Lib.hid hKl
    have HNL := Lib.hid hnL
    have HSW := Lib.hid (show ∀ q, Kid r q → q < n → leH (K.getD q Hd.zero) (K.getD r Hd.zero) → (∀ c, Kid r c → c < n → leH (K.getD q Hd.zero) (K.getD c Hd.zero)) → (swH K r q).Perm H ∧ HeapDn (swH K r q) n q ∧ (∀ m, n ≤ m → (swH K r q).getD m Hd.zero = H.getD m Hd.zero) from fun q hq hqn hle hmin => ⟨(swH_perm K r q (by unfold Kid at hq; omega) (by omega)).trans hp, down_step hdn (by omega) hq hqn hle hmin, fun m hm => (swH_behind (n := n) (by unfold Kid at hq; omega) hqn (by omega) hm).trans (hbe m hm)⟩)
    clear hh ht hp hdn hbe h hd hi hN hKl hnl hnL hl hl2
    obtain ⟨c, hc⟩ : ∃ c, c = 2 * r + 1 := ⟨_, rfl⟩
    have e1 : 2 * (r : Int) + 1 = (c : Int) := by omega
    have e2 : IntKind.i64.wrap (2 * (r : Int)) = 2 * (r : Int) := by rw [IntKind.wrap_i64]; omega
    have e3 : IntKind.i64.wrap (c : Int) = (c : Int) := by rw [IntKind.wrap_i64]; omega
    have d0 : decide ((c : Int) < 0) = false := by simp
    have d9 : ¬ (c : Int) < 0 := by omega
    have HC := Lib.hid hc
    by_cases hch : n ≤ c
    · have d1 : decide ((n : Int) ≤ (c : Int)) = true := by simp; omega
      have d2 : (n : Int) ≤ (c : Int) := by omega
      clear hc
      go_wp2
      go_ret
      exact ⟨⟨_, rfl⟩, K, HH.out, HP.out, down_end HDN.out (fun k hk hkn => by have := HC.out; unfold Kid at hk; omega), HBE.out, HT.out⟩
    · have d1 : decide ((n : Int) ≤ (c : Int)) = false := by simp; omega
      have d2 : ¬ (n : Int) ≤ (c : Int) := by omega
      obtain ⟨c1, hc1⟩ : ∃ c1, c1 = c + 1 := ⟨_, rfl⟩
      have s1 : (c : Int) + 1 = (c1 : Int) := by omega
      have t1 : IntKind.i64.wrap (c1 : Int) = (c1 : Int) := by rw [IntKind.wrap_i64]; omega
      have hcn : c < n := by omega
      have HCN := Lib.hid (show c < n ∧ c < L ∧ r < L ∧ r < c ∧ c ≤ 1000000 from by have := HNL.out; omega)
      have HC1 := Lib.hid hc1
      have KC := Lib.hid (show Kid r c by unfold Kid; omega)
      have M0 := fun n' => mLess n' p (some ⟨g, 0, none⟩) L c0 wr hcell
      have KID := Lib.hid (show ∀ x, Kid r x → x = c ∨ x = c1 from fun x hx => by unfold Kid at hx; omega)
      by_cases h2 : c1 < n
      · have d3 : decide ((c1 : Int) < (n : Int)) = true := by simp; omega
        have d4 : (c1 : Int) < (n : Int) := by omega
        have HC2 := Lib.hid h2
        have CA := Lib.hid (CL.out wr HH.out c1 c (by have := HNL.out; omega) HCN.out.2.1)
        clear hc hc1 hcn hch h2
        cases ha : lessB (K.getD c1 Hd.zero) (K.getD c Hd.zero) with
        | true =>
          rw [ha] at CA
          have MIN := Lib.hid (show ∀ x, Kid r x → x < n → leH (K.getD c1 Hd.zero) (K.getD x Hd.zero) from fun x hx hxn => by
            rcases KID.out x hx with rfl | rfl
            · exact lessB_yes ha
            · exact leH_refl _)
          have HJ := Lib.hid (show c1 < n ∧ c1 < L ∧ r < L ∧ r < c1 ∧ c1 ≤ 1000000 from by have := HC2.out; have := HCN.out; have := HC1.out; have := HNL.out; omega)
          have KJ := Lib.hid (show Kid r c1 by have := HC.out; have := HC1.out; unfold Kid; omega)
          cases hb : lessB (K.getD c1 Hd.zero) (K.getD r Hd.zero) with
          | false =>
            go_wp2_with (first | (go_at_call 139; (with_reducible refine CA.out.mono ?_); rintro e w1 ⟨rfl, hh1, ht1⟩; have hc1 := MC.out w1 hh1; have M1 := fun n' => mLess n' p (some ⟨g, 0, none⟩) L c0 w1 hc1; have CB := Lib.hid (CL.out w1 hh1 c1 r HJ.out.2.1 HJ.out.2.2.1); rw [hb] at CB) | (go_at_call 139; (with_reducible refine CB.out.mono ?_); rintro e w2 ⟨rfl, hh2, ht2⟩; have hc2 := MC.out w2 hh2; have M2 := fun n' => mSwap n' p (some ⟨g, 0, none⟩) L c0 w2 hc2; have CS1 := Lib.hid (CS.out w2 hh2 r c1 HJ.out.2.2.1 HJ.out.2.1)) | fail)
            go_ret
            exact ⟨⟨_, rfl⟩, K, hh2, HP.out, down_end HDN.out (fun x hx hxn => leH_trans (lessB_no.1 hb) (MIN.out x hx hxn)), HBE.out, (HT.out.trans ht1 (by simp)).trans ht2 (by simp)⟩
          | true =>
            go_wp2_with (first | (go_at_call 139; (with_reducible refine CA.out.mono ?_); rintro e w1 ⟨rfl, hh1, ht1⟩; have hc1 := MC.out w1 hh1; have M1 := fun n' => mLess n' p (some ⟨g, 0, none⟩) L c0 w1 hc1; have CB := Lib.hid (CL.out w1 hh1 c1 r HJ.out.2.1 HJ.out.2.2.1); rw [hb] at CB) | (go_at_call 139; (with_reducible refine CB.out.mono ?_); rintro e w2 ⟨rfl, hh2, ht2⟩; have hc2 := MC.out w2 hh2; have M2 := fun n' => mSwap n' p (some ⟨g, 0, none⟩) L c0 w2 hc2; have CS1 := Lib.hid (CS.out w2 hh2 r c1 HJ.out.2.2.1 HJ.out.2.1)) | (go_at_call 142; (with_reducible refine CS1.out.mono ?_); rintro e w3 ⟨rfl, hh3, ht3⟩) | fail)
            go_roundw
            · have hq := HSW.out c1 KJ.out HJ.out.1 (lessB_yes hb) MIN.out
              exact ⟨c1, swH K r c1, rfl, HJ.out.2.2.2.2, hq.1, hq.2.1, hq.2.2, hh3, ((HT.out.trans ht1 (by simp)).trans ht2 (by simp)).trans ht3 (fun x hx => .inl hx)⟩
            · have := HJ.out
              simp [Go.RowKit.intOf]
              omega
        | false =>
          rw [ha] at CA
          have MIN := Lib.hid (show ∀ x, Kid r x → x < n → leH (K.getD c Hd.zero) (K.getD x Hd.zero) from fun x hx hxn => by
            rcases KID.out x hx with rfl | rfl
            · exact leH_refl _
            · exact lessB_no.1 ha)
          have HJ := Lib.hid (show c < n ∧ c < L ∧ r < L ∧ r < c ∧ c ≤ 1000000 from by have := HCN.out; have := HC1.out; have := HNL.out; omega)
          have KJ := Lib.hid (show Kid r c by have := HC.out; have := HC1.out; unfold Kid; omega)
          cases hb : lessB (K.getD c Hd.zero) (K.getD r Hd.zero) with
          | false =>
            go_wp2_with (first | (go_at_call 139; (with_reducible refine CA.out.mono ?_); rintro e w1 ⟨rfl, hh1, ht1⟩; have hc1 := MC.out w1 hh1; have M1 := fun n' => mLess n' p (some ⟨g, 0, none⟩) L c0 w1 hc1; have CB := Lib.hid (CL.out w1 hh1 c r HJ.out.2.1 HJ.out.2.2.1); rw [hb] at CB) | (go_at_call 139; (with_reducible refine CB.out.mono ?_); rintro e w2 ⟨rfl, hh2, ht2⟩; have hc2 := MC.out w2 hh2; have M2 := fun n' => mSwap n' p (some ⟨g, 0, none⟩) L c0 w2 hc2; have CS1 := Lib.hid (CS.out w2 hh2 r c HJ.out.2.2.1 HJ.out.2.1)) | fail)
            go_ret
            exact ⟨⟨_, rfl⟩, K, hh2, HP.out, down_end HDN.out (fun x hx hxn => leH_trans (lessB_no.1 hb) (MIN.out x hx hxn)), HBE.out, (HT.out.trans ht1 (by simp)).trans ht2 (by simp)⟩
          | true =>
            go_wp2_with (first | (go_at_call 139; (with_reducible refine CA.out.mono ?_); rintro e w1 ⟨rfl, hh1, ht1⟩; have hc1 := MC.out w1 hh1; have M1 := fun n' => mLess n' p (some ⟨g, 0, none⟩) L c0 w1 hc1; have CB := Lib.hid (CL.out w1 hh1 c r HJ.out.2.1 HJ.out.2.2.1); rw [hb] at CB) | (go_at_call 139; (with_reducible refine CB.out.mono ?_); rintro e w2 ⟨rfl, hh2, ht2⟩; have hc2 := MC.out w2 hh2; have M2 := fun n' => mSwap n' p (some ⟨g, 0, none⟩) L c0 w2 hc2; have CS1 := Lib.hid (CS.out w2 hh2 r c HJ.out.2.2.1 HJ.out.2.1)) | (go_at_call 142; (with_reducible refine CS1.out.mono ?_); rintro e w3 ⟨rfl, hh3, ht3⟩) | fail)
            go_roundw
            · have hq := HSW.out c KJ.out HJ.out.1 (lessB_yes hb) MIN.out
              exact ⟨c, swH K r c, rfl, HJ.out.2.2.2.2, hq.1, hq.2.1, hq.2.2, hh3, ((HT.out.trans ht1 (by simp)).trans ht2 (by simp)).trans ht3 (fun x hx => .inl hx)⟩
            · have := HJ.out
              simp [Go.RowKit.intOf]
              omega
      · have d3 : decide ((c1 : Int) < (n : Int)) = false := by simp; omega
        have d4 : ¬ (c1 : Int) < (n : Int) := by omega
        have HC2 := Lib.hid h2
        clear hc hc1 hcn hch h2
        have MIN := Lib.hid (show ∀ x, Kid r x → x < n → leH (K.getD c Hd.zero) (K.getD x Hd.zero) from fun x hx hxn => by
          rcases KID.out x hx with rfl | rfl
          · exact leH_refl _
          · exact absurd hxn HC2.out)
        have HJ := Lib.hid (show c < n ∧ c < L ∧ r < L ∧ r < c ∧ c ≤ 1000000 from by have := HCN.out; have := HC1.out; have := HNL.out; omega)
        have KJ := Lib.hid (show Kid r c by have := HC.out; have := HC1.out; unfold Kid; omega)
        have CB := Lib.hid (CL.out wr HH.out c r HJ.out.2.1 HJ.out.2.2.1)
        cases hb : lessB (K.getD c Hd.zero) (K.getD r Hd.zero) with
        | false =>
          rw [hb] at CB
          go_wp2_with (go_at_call 139; (with_reducible refine CB.out.mono ?_); rintro e w2 ⟨rfl, hh2, ht2⟩; have hc2 := MC.out w2 hh2; have M2 := fun n' => mSwap n' p (some ⟨g, 0, none⟩) L c0 w2 hc2; have CS1 := Lib.hid (CS.out w2 hh2 r c HJ.out.2.2.1 HJ.out.2.1))
          go_ret
          exact ⟨⟨_, rfl⟩, K, hh2, HP.out, down_end HDN.out (fun x hx hxn => leH_trans (lessB_no.1 hb) (MIN.out x hx hxn)), HBE.out, HT.out.trans ht2 (by simp)⟩
        | true =>
          rw [hb] at CB
          go_wp2_with (first | (go_at_call 139; (with_reducible refine CB.out.mono ?_); rintro e w2 ⟨rfl, hh2, ht2⟩; have hc2 := MC.out w2 hh2; have M2 := fun n' => mSwap n' p (some ⟨g, 0, none⟩) L c0 w2 hc2; have CS1 := Lib.hid (CS.out w2 hh2 r c HJ.out.2.2.1 HJ.out.2.1)) | (go_at_call 142; (with_reducible refine CS1.out.mono ?_); rintro e w3 ⟨rfl, hh3, ht3⟩))
          go_roundw
          · have hq := HSW.out c KJ.out HJ.out.1 (lessB_yes hb) MIN.out
            exact ⟨c, swH K r c, rfl, HJ.out.2.2.2.2, hq.1, hq.2.1, hq.2.2, hh3, (HT.out.trans ht2 (by simp)).trans ht3 (fun x hx => .inl hx)⟩
          · have := HJ.out
            simp [Go.RowKit.intOf]
            omega
end Go.Proofs.YtcbailiniigcnaaGreat
