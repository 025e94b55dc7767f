/- container/heap over merge's heads: up. -/
import Derived.Test.YtcbailiniigcnaaGreatHM2
namespace Go.Proofs.YtcbailiniigcnaaGreat
open Go.ChangeShapes Go.WideShapes Go.ChangeAt Go.Deep Go.RowKit Go.Lib

/-- The heap, with all lists of which it has what is left. -/
structure HpI (B : Nat) (w : World) (p : Nat) (v : Value) (H : List Hd) : Prop where
  at_ : HpAt w p v H
  box : B ≤ p
  arr : ∀ b, ob v = some b → B ≤ b
  hds : ∀ h ∈ H, HdAt B w h
theorem HpI.lt {B p : Nat} {v : Value} {H : List Hd} {w : World} (h : HpI B w p v H) : B ≤ w.heap.size := Nat.le_trans h.box (Nat.le_of_lt h.at_.lt)
theorem HpI.far {B p : Nat} {v : Value} {H : List Hd} {w : World} (h : HpI B w p v H) : ∀ x ∈ hblk p v, B ≤ x := fun x hx => by
  rcases mem_hblk.1 hx with rfl | hx
  · exact h.box
  · exact h.arr x hx
theorem HpI.turn {B p : Nat} {v : Value} {H : List Hd} {w w' : World} {F : List Nat} (h : HpI B w p v H) (ht : Turn F w w') (hF : ∀ x ∈ F, x ∉ hblk p v ∧ B ≤ x) : HpI B w' p v H :=
  ⟨h.at_.kept fun k hk => ht.block k (by
    rcases hk with rfl | hk
    · exact h.at_.lt
    · exact h.at_.2.lt k hk) (fun hf => (hF k hf).1 (mem_hblk.2 hk)), h.box, h.arr, fun x hx => (h.hds x hx).turn ht h.lt fun y hy => (hF y hy).2⟩
theorem HpI.below {B p : Nat} {v : Value} {H : List Hd} {w w' : World} (h : HpI B w p v H) (hb : Below w.heap.size w w') : HpI B w' p v H := h.turn (turn_of_below (F := []) hb) (by simp)
theorem HpI.open {B p : Nat} {v : Value} {H : List Hd} {w : World} (h : HpI B w p v H) (hp : 0 < H.length) : ∃ g c, v = .slice (some ⟨g, 0, none⟩) H.length c ∧ g ≠ p ∧ g < w.heap.size ∧ H.length ≤ c ∧ c ≤ maxLen := by
  rcases h.at_.2.2 with ⟨e, -⟩ | ⟨g, cap, cur, rfl, hg, h1, h2, -⟩
  · omega
  · exact ⟨g, cap + 1, rfl, fun e => h.at_.apart (by rw [e]; rfl), (Array.getElem?_eq_some_iff.1 hg).1, h1, h2⟩
/-- One array turned, the box as it was. -/
theorem HpI.with {B p : Nat} {v : Value} {H H' : List Hd} {w w' : World} {g c n : Nat} (h : HpI B w p v H) (hv : v = .slice (some ⟨g, 0, none⟩) n (c + 1)) (hR : Row w' 170 2 v H.length (cellsH H')) (hl : H'.length = H.length) (hm : ∀ x ∈ H', x ∈ H) (ht : Turn [g] w w') : HpI B w' p v H' := by
  have hgp : g ≠ p := fun e => h.at_.apart (by rw [hv, e]; rfl)
  refine ⟨⟨(ht.block p h.at_.lt (by simp; exact fun e => hgp e.symm)).trans h.at_.1, by rw [hl]; exact hR⟩, h.box, h.arr, fun x hx => (h.hds x (hm x hx)).turn ht h.lt (by
    intro y hy
    simp at hy
    subst hy
    exact h.arr y (by rw [hv]; rfl))⟩
theorem mem_swH {H : List Hd} {i j : Nat} (hi : i < H.length) (hj : j < H.length) : ∀ x ∈ swH H i j, x ∈ H := fun _ hx => (swH_perm H i j hi hj).mem_iff.1 hx
theorem getD_mem {H : List Hd} {i : Nat} (hi : i < H.length) : H.getD i Hd.zero ∈ H := by
  rw [List.getD_eq_getElem?_getD, List.getElem?_eq_getElem hi]
  exact List.getElem_mem hi
theorem hless_at {B p n : Nat} {v : Value} {H : List Hd} {w : World} (h : HpI B w p v H) {g c : Nat} (hv : v = .slice (some ⟨g, 0, none⟩) n c) (hn : H.length = n) (i j : Nat) (hi : i < n) (hj : j < n) :
    Calls Tryz.prog 139 #[.slice (some ⟨g, 0, none⟩) n c, .int .i64 (i : Int), .int .i64 (j : Int)] w fun e w' => e = .returned (.bool (lessB (H.getD i Hd.zero) (H.getD j Hd.zero))) ∧ HpI B w' p v H ∧ Turn [] w w' := by
  subst hn
  have hR := h.at_.2
  rw [hv] at hR
  have hg : g < w.heap.size := by
    refine h.at_.2.lt g ?_
    obtain ⟨-, hle⟩ := (h.open (by omega)).choose_spec.choose_spec
    rw [hv]
    obtain ⟨g', c', e, -, -, h1, -⟩ := h.open (by omega)
    rw [hv] at e
    cases e
    obtain ⟨c', rfl⟩ : ∃ c'', c = c'' + 1 := ⟨c - 1, by omega⟩
    rfl
  have hx := fun k (hk : k < H.length) => (h.hds _ (getD_mem hk)).mono_base h.lt
  refine (hless_any g 0 H.length c H i j w (hsAt_of hR rfl) rfl hg hi hj (hx i hi) (hx j hj)).mono ?_
  rintro e w' ⟨rfl, hb⟩
  exact ⟨rfl, h.below hb, turn_of_below hb⟩
theorem hswap_at {B p n : Nat} {v : Value} {H : List Hd} {w : World} (h : HpI B w p v H) {g c : Nat} (hv : v = .slice (some ⟨g, 0, none⟩) n c) (hn : H.length = n) (i j : Nat) (hi : i < n) (hj : j < n) :
    Calls Tryz.prog 142 #[.slice (some ⟨g, 0, none⟩) n c, .int .i64 (i : Int), .int .i64 (j : Int)] w fun e w' => e = .returned (.tuple #[]) ∧ HpI B w' p v (swH H i j) ∧ Turn (hblk p v) w w' := by
  subst hn
  have hR := h.at_.2
  rw [hv] at hR
  refine (hswap_any g 0 H.length c H i j w hR rfl rfl hi hj).mono ?_
  rintro e w' ⟨rfl, hr, ht⟩
  obtain ⟨g', c', e, -, -, h1, -⟩ := h.open (by omega)
  rw [hv] at e
  cases e
  obtain ⟨c', rfl⟩ : ∃ c'', c = c'' + 1 := ⟨c - 1, by omega⟩
  exact ⟨rfl, h.with hv (by rw [hv]; exact hr) (swH_length _ _ _) (mem_swH hi hj) ht, ht.mono (by
    intro x hx
    simp at hx
    subst hx
    exact .inl (mem_hblk.2 (.inr (by rw [hv]; rfl))))⟩
set_option maxHeartbeats 4000000 in
set_option maxRecDepth 100000 in
theorem up_any (B p j : Nat) (v : Value) (H : List Hd) (w : World) (h : HpI B w p v H) (hj : j < H.length) (hu : HeapUp H H.length j) (hN : H.length ≤ 1000000) :
    Calls Tryz.prog 121 #[.iface 100 (.pointer (some ⟨p, 0, none⟩)), .int .i64 (j : Int)] w fun e w' => e = .returned (.tuple #[]) ∧ ∃ H', HpI B w' p v H' ∧ H'.Perm H ∧ HeapH H' H'.length ∧ Turn (hblk p v) w w' := by
  obtain ⟨n, hn⟩ : ∃ n, H.length = n := ⟨_, rfl⟩
  have HN := Lib.hid hn
  clear hn
  go_enter Tryz.func121, Tryz.ntmps121
  go_wp2
  go_loopw [1] (fun rv wr => ∃ (r : Nat) (K : List Hd), rv = .int .i64 (r : Int) ∧ r < n ∧ K.Perm H ∧ HeapUp K n r ∧ HpI B wr p v K ∧ Turn (hblk p v) w wr) (fun rv _ => (Go.RowKit.intOf rv).toNat)
  case atStart => exact ⟨j, H, rfl, by rw [← HN.out]; exact hj, .refl _, by rw [← HN.out]; exact hu, h, Turn.refl _ _⟩
  case round =>
    obtain ⟨r, K, rfl, hr, hp, hup, hh, ht⟩ := hrel
    have hKl := hp.length_eq.trans HN.out
    have hN2 : n ≤ 1000000 := HN.out ▸ hN
    obtain ⟨g, c, hv, hgp, -, -, -⟩ := hh.open (by omega)
    have hcell := hh.at_.cell
    rw [hKl] at hv
    rw [hv] at hcell
    have CL := Lib.hid (fun i j hi hj => hless_at hh hv hKl i j hi hj)
    have CS := Lib.hid (fun W (h : HpI B W p v K) i j hi hj => hswap_at h hv hKl i j hi hj)
    have HH := Lib.hid hh
    have HT := Lib.hid ht
    have HP := Lib.hid hp
    have HUP := Lib.hid hup
    have HKL := Lib.hid hKl
    have HSW := Lib.hid (show ∀ q, Kid q r → leH (K.getD r Hd.zero) (K.getD q Hd.zero) → (swH K q r).Perm H ∧ HeapUp (swH K q r) n q from fun q hq hle => ⟨(swH_perm K q r (by unfold Kid at hq; omega) (by omega)).trans hp, up_step hup (by omega) hq hr hle⟩)
    clear hh ht hp hup h hu hj hN hKl
    by_cases h0 : r = 0
    · subst h0
      go_wp2
      first | go_end0 | refine bodyPost_ret (results_none rfl _ _ _) rfl ?_
      exact ⟨rfl, K, HH.out, HP.out, by rw [HKL.out]; exact up_end HUP.out (fun x hx => by unfold Kid at hx; omega), HT.out⟩
    · obtain ⟨k, hk⟩ : ∃ k, r = k + 1 := ⟨r - 1, by omega⟩
      obtain ⟨q, hq⟩ : ∃ q, q = k / 2 := ⟨_, rfl⟩
      have e1 : (r : Int) - 1 = (k : Int) := by omega
      have e2 : IntKind.i64.wrap (k : Int) = (k : Int) := by rw [IntKind.wrap_i64]; omega
      have e3 : Int.tdiv (k : Int) 2 = (q : Int) := by rw [hq, Int.tdiv_eq_ediv_of_nonneg (by omega)]; omega
      have e4 : IntKind.i64.wrap (q : Int) = (q : Int) := by rw [IntKind.wrap_i64]; omega
      have hqr : q < r := by omega
      have d1 : ((q : Int) == (r : Int)) = false := by rw [beq_eq_false_iff_ne]; omega
      have HQ := Lib.hid (show Kid q r by unfold Kid; omega)
      have HQR := Lib.hid hqr
      have HR2 := Lib.hid hr
      have CL1 := Lib.hid (CL.out r q hr (by omega))
      have M1 := fun n' => mLess n' p (some ⟨g, 0, none⟩) n c wr hcell
      clear hk hq CL hqr h0
      cases hb : lessB (K.getD r Hd.zero) (K.getD q Hd.zero) with
      | false =>
        rw [hb] at CL1
        go_wp2_with (go_at_call 139; refine CL1.out.mono ?_; rintro e w1 ⟨rfl, hh1, ht1⟩)
        first | go_end0 | refine bodyPost_ret (results_none rfl _ _ _) rfl ?_
        exact ⟨rfl, K, hh1, HP.out, by rw [HKL.out]; exact up_end HUP.out (fun x hx => by
          obtain rfl : x = q := by have := HQ.out; unfold Kid at hx this; omega
          exact lessB_no.1 hb), HT.out.trans ht1 (by simp)⟩
      | true =>
        rw [hb] at CL1
        go_wp2_with (first | (go_at_call 139; refine CL1.out.mono ?_; rintro e w1 ⟨rfl, hh1, ht1⟩; have hcell1 := hh1.at_.cell; rw [hv] at hcell1; have M2 := fun n' => mSwap n' p (some ⟨g, 0, none⟩) n c w1 hcell1; have CS1 := Lib.hid (CS.out w1 hh1 q r (Nat.lt_trans HQR.out HR2.out) HR2.out)) | (go_at_call 142; refine CS1.out.mono ?_; rintro e w2 ⟨rfl, hh2, ht2⟩))
        go_roundw
        · exact ⟨q, swH K q r, rfl, Nat.lt_trans HQR.out HR2.out, (HSW.out q HQ.out (lessB_yes hb)).1, (HSW.out q HQ.out (lessB_yes hb)).2, hh2, (HT.out.trans ht1 (by simp)).trans ht2 (fun x hx => .inl hx)⟩
        · have := HQR.out
          simp [Go.RowKit.intOf]
          omega
end Go.Proofs.YtcbailiniigcnaaGreat
