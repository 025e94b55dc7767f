/- Joined: DFH DFI. -/
import Derived.Test.YtfndlfnlepndmaaGreatDFDG
import Derived.Test.YtfndlfnlepndmaaGreatMIO
import Derived.Test.YtfndlfnlepndmaaGreatFHR
namespace Go.Proofs.YtfndlfnlepndmaaGreat
open Go.RowKit

section
variable {F G : Nat → Prop} {B p q n m n' m' : Nat} {s r s' r' : St} {w w' : World}
theorem hs_crashK (h : Hs F B p n m s w) (hN : n ≤ 100000) (hM : m ≤ 1000000000) (dir : Int) (g c : Nat) (ks : List Int) (hg : F g) (hr : Row w 3 1 (.slice (some ⟨g, 0, none⟩) (ks.length + 1) (c + 1)) (ks.length + 1) (cellsI ks ++ [.int .i64 (-77)])) :
    Calls Tryz.prog 12 #[.pointer (some ⟨p, 0, none⟩), .int .i64 dir, .slice (some ⟨g, 0, none⟩) ks.length (c + 1)] w fun e w' => e = .returned (.tuple #[]) ∧ Hs F B p n m (s.crash dir ks) w' ∧ Below B w w' ∧ Kp F w w' := by
  have hB := h.size
  obtain ⟨r, h1, rfl, h3, h4, h5, h6⟩ := h
  obtain ⟨a, cap, he, hle, hmx⟩ := hr.le
  cases he
  refine (crash_any h1 h4 hN hM h5 dir _ ks ⟨some ⟨g, 0, none⟩, c + 1, rfl, hmx, by omega, fun i hi => ⟨g, 0, rfl, (h6 g hg).1, ?_⟩⟩).mono ?_
  · refine hr.cell g 0 (c + 1) rfl i _ ?_
    rw [List.getElem?_append_left (by rw [cellsI_length]; exact hi)]
    simp [cellsI, hi]
  rintro e w' ⟨rfl, hn'⟩
  exact ⟨rfl, Hs.next hB h3 rfl hn' (crash_lim h4 _ _) (crash_coh _ _ _) h6⟩
theorem intsV_at {w : World} {La : Option Addr} {Ll Lc : Nat} {ks : List Int} (h : IntsV w (.slice La Ll Lc) ks) : Ll = ks.length ∧ ∀ i (hi : i < ks.length), ∃ y, La = some y ∧ w.cell? (y.add i) = some (.int .i64 ks[i]) := by
  rcases h with ⟨e, rfl⟩ | ⟨y, cap, e, hc⟩
  · cases e
    exact ⟨rfl, fun i hi => by cases hi⟩
  · cases e
    exact ⟨rfl, fun i hi => ⟨y, rfl, hc i _ (by simp [cellsI, hi])⟩⟩
set_option maxHeartbeats 4000000 in
set_option maxRecDepth 100000 in
theorem do9_any (h : Two F B p q n m s r w) (hN : n ≤ 90000) (hM : m ≤ 1000000000) (N : Int) (A Bn D : ByteArray) (_hA : A.size ≤ 1000000) (_hBn : Bn.size ≤ 1000000) (_hD : D.size ≤ 1000000) (La : Option Addr) (Ll Lc : Nat) (ks : List Int) (hLa : ∀ y, La = some y → ks = [] ∨ ∃ b o, y = ⟨b, o, none⟩) (hkl : ks.length ≤ 1000000) (hL : ∀ W', Below B w W' → IntsV W' (.slice La Ll Lc) ks) :
    Calls Tryz.prog 13 #[.pointer (some ⟨p, 0, none⟩), .pointer (some ⟨q, 0, none⟩), .agg #[.int .i64 9, .int .i64 N, .string A, .string Bn, .string D, .slice La Ll Lc]] w fun e w' => e = .returned (.bool true) ∧ Done F B p q (n + 2) (m + D.size) w w' := by
  have hB := h.size
  have hF := h.lt
  obtain ⟨W, hW⟩ : ∃ W, w.alloc (.cells #[.int .i64 9, .int .i64 N, .string A, .string Bn, .string D, .slice La Ll Lc] 48) = W := ⟨_, rfl⟩
  have hbW : Below w.heap.size w W := by rw [← hW]; exact (Below.refl _ _).alloc (Nat.le_refl _) _
  have hblk : W.heap[w.heap.size]? = some (.cells #[.int .i64 9, .int .i64 N, .string A, .string Bn, .string D, .slice La Ll Lc] 48) := by rw [← hW]; exact blockZ _ _ rfl
  have y0 : W.cell? ⟨w.heap.size, 0, none⟩ = some (.int .i64 9) := by simp [World.cell?, hblk]
  have y1 : W.cell? ⟨w.heap.size, 1, none⟩ = some (.int .i64 N) := by simp [World.cell?, hblk]
  have y2 : W.cell? ⟨w.heap.size, 2, none⟩ = some (.string A) := by simp [World.cell?, hblk]
  have y3 : W.cell? ⟨w.heap.size, 3, none⟩ = some (.string Bn) := by simp [World.cell?, hblk]
  have y4 : W.cell? ⟨w.heap.size, 4, none⟩ = some (.string D) := by simp [World.cell?, hblk]
  have y5 : W.cell? ⟨w.heap.size, 5, none⟩ = some (.slice La Ll Lc) := by simp [World.cell?, hblk]
  have hsz : w.heap.size < W.heap.size := by rw [← hW]; simp
  have HT := Lib.hid (h.below (G := fun k => F k ∨ k = w.heap.size) hbW fun k hk => hk.elim .inl fun e => .inr ⟨by omega, by omega⟩)
  have HBW := Lib.hid hbW
  have HB := Lib.hid hB
  have HF := Lib.hid hF
  have hLW : ∀ W', Below B W W' → IntsV W' (.slice La Ll Lc) ks := fun W' hb => hL W' ((hbW.mono hB).trans hb)
  have hBW2 : B ≤ W.heap.size := by omega
  have CL := Lib.hid (lentI8_any La Ll Lc ks W (hLW W (Below.refl _ _)) hkl)
  have HLW := Lib.hid hLW
  have HBW2 := Lib.hid hBW2
  have HLA := Lib.hid hLa
  have HN := Lib.hid hN
  have HM := Lib.hid hM
  obtain ⟨hLl, -⟩ := intsV_at (hL w (Below.refl _ _))
  subst hLl
  clear h hbW hblk hB hF hL hLW hBW2
  go_enter Tryz.func13, Tryz.ntmps13
  go_wp2_with (first | (go_at_call 48; (with_reducible refine CL.out.mono ?_); rintro e w1 ⟨g, c, rfl, hrow, hgl, hb1⟩; have k1 := (hb1.cell (p := ⟨w.heap.size, 1, none⟩) hsz).trans y1; have k5 := (hb1.cell (p := ⟨w.heap.size, 5, none⟩) hsz).trans y5) | fail)
  have hglt : g < w1.heap.size := hrow.lt g rfl
  have HT1 := Lib.hid (HT.out.below (G := fun k => (F k ∨ k = w.heap.size) ∨ k = g) hb1 fun k hk => hk.elim .inl fun e => .inr ⟨by omega, by omega⟩)
  have hbB := hb1.mono HBW2.out
  have HB1 := Lib.hid hbB
  have HB1K := Lib.hid (show Kp (fun k => F k ∨ k = w.heap.size) W w1 from fun k hk => hb1.block k (HT.out.lt k hk))
  have HROW := Lib.hid hrow
  obtain ⟨⟨x, h1, h2, h6⟩, h3, h4, h5⟩ := HT1.out
  have CP := Lib.hid (hs_crashK h1 (by have := HN.out; omega) HM.out N g c ks (.inl (.inr rfl)) hrow)
  have HR2 := Lib.hid h2
  have HP3 := Lib.hid h3
  have HQ4 := Lib.hid h4
  have HQ5 := Lib.hid h5
  have HQ6 := Lib.hid h6
  clear h1 h2 h3 h4 h5 h6 hrow hbB hb1 hgl hglt
  go_wp2_with (first | (go_at_call 12; (with_reducible refine CP.out.mono ?_); rintro e w2 ⟨rfl, hs2, hb2, hk2⟩; have l1 := (World.cell?_of_block (hk2 w.heap.size (.inl (.inl (.inr rfl))))).trans k1; have l5 := (World.cell?_of_block (hk2 w.heap.size (.inl (.inl (.inr rfl))))).trans k5) | fail)
  have hr2 := kept_of_kp HR2.out hk2
  have hdoc := HP3.out.doc (s := s) (by have := HT.out.wf; exact this)
  have hB2 : Below B W w2 := HB1.out.trans hb2
  have CD := Lib.hid (rcrash_any hr2 hdoc HP3.out.ok (by have := HN.out; omega) HM.out N La Lc ks (fun W' ht i hi => by
    obtain ⟨-, hat⟩ := intsV_at (HLW.out W' (hB2.trans (ht.below hs2.size (by simpa using HQ4.out))))
    obtain ⟨y, hy, hc⟩ := hat i hi
    rcases HLA.out y hy with h0 | ⟨b, o, rfl⟩
    · subst h0; cases hi
    refine ⟨b, o, hy, ?_⟩
    rw [addrO] at hc
    exact hc))
  have HS2 := Lib.hid hs2
  have HB2 := Lib.hid hB2
  have HK2 := Lib.hid hk2
  clear hs2 hb2 hk2 hr2 hdoc hB2
  go_wp2_with (first | (go_at_call 49; (with_reducible refine CD.out.mono ?_); rintro e w3 ⟨rfl, hn3⟩; obtain ⟨ht3, hk3, hb3⟩ := Two.ref HS2.out HQ4.out HQ5.out HQ6.out hn3 (HP3.out.crash N ks); have o5 := (World.cell?_of_block (hk3 w.heap.size (.inl (.inr rfl)))).trans l5) | fail)
  have hrow3 := HROW.out.kept (w' := w3) (fun k hk => by
    have : k = g := (Option.some.inj hk).symm
    subst this
    exact (hk3 _ (.inr rfl)).trans (HK2.out _ (.inl (.inr rfl))))
  have hB3 := HB2.out.trans hb3
  have CS := Lib.hid (staysI8_any g c La ks.length Lc ks w3 hrow3 (HLW.out w3 hB3) hkl)
  have HB3 := Lib.hid hB3
  have HT3 := Lib.hid ht3
  have HKK := Lib.hid (show Kp (fun k => F k ∨ k = w.heap.size) W w3 from fun k hk => (hk3 k (.inl hk)).trans ((HK2.out k (.inl (.inl hk))).trans (HB1K.out k hk)))
  clear ht3 hk3 hb3 hn3 hrow3 hB3
  go_wp2_with (first | (go_at_call 50; (with_reducible refine CS.out.mono ?_); rintro e w4 ⟨rfl, hb4⟩) | fail)
  go_ret
  refine ⟨rfl, Done.of (w' := W) HBW.out HB.out HF.out ((((HT3.out.fewer (G := fun k => F k ∨ k = w.heap.size) fun _ hk => .inl hk).same hb4).up (Nat.le_add_right _ _) (Nat.le_add_right _ _))) (HKK.out.trans fun k hk => hb4.block k (HT3.out.lt k (.inl hk))) (HB3.out.trans (hb4.mono HT3.out.size))⟩
end
end Go.Proofs.YtfndlfnlepndmaaGreat

namespace Go.Proofs.YtfndlfnlepndmaaGreat
open Go.RowKit

section
variable {F G : Nat → Prop} {B p q n m n' m' : Nat} {s r s' r' : St} {w w' : World}
set_option maxHeartbeats 8000000 in
set_option maxRecDepth 100000 in
theorem same4_any (h : Two F B p q n m s r w) (hN : n ≤ 90000) (hM : m ≤ 1000000000) :
    Calls Tryz.prog 18 #[.pointer (some ⟨p, 0, none⟩), .pointer (some ⟨q, 0, none⟩)] w fun e w' => e = .returned (.bool true) ∧ Below w.heap.size w w' := by
  have hd := h.doc
  obtain ⟨⟨x, h1, h2, -⟩, h3, h4, h5⟩ := h
  obtain ⟨f, hf⟩ := h3.up
  have hnl : s.names.length ≤ 1000000 := by
    have := h1.has
    obtain ⟨rr, g1, -, -, g4, -⟩ := this
    have := g4.nowl
    unfold St.names
    split
    · rw [List.length_map]
      omega
    · simp
  have HNL := Lib.hid hnl
  have CR := Lib.hid (rnames_any h2 hd (by omega))
  rw [hf.names] at CR
  have HH := Lib.hid (fun W (hb : Below w.heap.size w W) => h1.same hb)
  have HRR := Lib.hid (fun W (hb : Below w.heap.size w W) => h2.below hb)
  have HQ := Lib.hid (show ∀ W, Below w.heap.size w W → W.cell? ⟨q, 1, none⟩ = some (.bool s.on) ∧ W.cell? ⟨q, 4, none⟩ = some (.int .i64 s.steps) from fun W hb => ⟨(h2.below hb).cell 1 _ (by rw [hf.on]; rfl), (h2.below hb).cell 4 _ (by rw [hf.steps]; rfl)⟩)
  have CNM := Lib.hid (show ∀ W, Below w.heap.size w W → Calls Tryz.prog 15 #[.pointer (some ⟨p, 0, none⟩)] W fun e w' => ∃ v, e = .returned v ∧ Row w' 9 1 v s.names.length (nmVals s.names) ∧ Below W.heap.size W w' from fun W hb => (hs_names (h1.same hb) (by omega)).mono fun e w' hx => by
    obtain ⟨v, e1, e2, -, e4⟩ := hx
    exact ⟨v, e1, e2, e4⟩)
  have CUS := Lib.hid (show ∀ W, Below w.heap.size w W → Calls Tryz.prog 33 #[.pointer (some ⟨p, 0, none⟩)] W fun e w' => e = .returned (.int .i64 (used s.files s.now : Int)) ∧ Below W.heap.size W w' from fun W hb => (has_used (h1.same hb).has (by omega) hM).mono fun e w' hx => ⟨hx.1, hx.2.2⟩)
  have CUR := Lib.hid (show ∀ W, Below w.heap.size w W → Calls Tryz.prog 56 #[.pointer (some ⟨q, 0, none⟩)] W fun e w' => e = .returned (.int .i64 (used s.files s.now : Int)) ∧ Below W.heap.size W w' from fun W hb => (rused_any (h2.below hb) hd (by omega) hM).mono fun e w' hx => by
    obtain ⟨e1, j, rfl⟩ := hx
    rw [hf.used] at e1
    exact ⟨e1, drewNZ (Below.refl _ _) _⟩)
  have CON := Lib.hid (fun W (hb : Below w.heap.size w W) => hs_on (h1.same hb))
  have CSE := Lib.hid (fun W (hb : Below w.heap.size w W) => has_steps (h1.same hb).has)
  have CRD := Lib.hid (fun W (hb : Below w.heap.size w W) (a : ByteArray) (ha : a.size ≤ maxLen) => hs_read (h1.same hb) a ha)
  have CRR := Lib.hid (show ∀ W, Below w.heap.size w W → ∀ a : ByteArray, Calls Tryz.prog 17 #[.pointer (some ⟨q, 0, none⟩), .string a] W fun e w' => e = .returned (readV (s.read a.data.toList)) ∧ Below W.heap.size W w' from fun W hb a => by
    have := rread_any (h2.below hb) hd (by omega) a
    rw [hf.read] at this
    exact this)
  have HWF := Lib.hid (show ∀ a ∈ s.names, a.length ≤ 20 from fun a ha => by
    unfold St.names at ha
    split at ha
    · obtain ⟨e, he, rfl⟩ := List.mem_map.1 ha
      exact (nm_len (h1.wf.nnms e he)).2
    · cases ha)
  clear h1 h2 h3 h4 h5 hd hf
  go_enter Tryz.func18, Tryz.ntmps18
  go_wp2_with (first | (go_at_call 54; (with_reducible refine CR.out.mono ?_); rintro e w1 ⟨vl, rfl, hrl, hfl, hbl⟩) | fail)
  have HRL := Lib.hid hrl
  have HB1 := Lib.hid hbl
  obtain ⟨al, cl, hvl, hlc, hlm⟩ := hrl.le
  subst hvl
  clear hrl hfl hbl
  have u1 : (fun W' => W'.cell? ⟨q, 1, none⟩ = some (.bool s.on) ∧ W'.cell? ⟨q, 4, none⟩ = some (.int .i64 s.steps)) w1.drew := HQ.out _ HB1.out.drew
  refine wp_region_noPanic ?_
  refine wp_region_held (S := (fun W' => W'.cell? ⟨q, 1, none⟩ = some (.bool s.on) ∧ W'.cell? ⟨q, 4, none⟩ = some (.int .i64 s.steps))) (by kernel_rfl) ?_
  refine wpAnyH_take (i := 0) (v := ?_) rfl (by kernel_rfl) (by kernel_rfl) (by kernel_rfl) (fun _ _ _ h => h) (Or.inl ⟨by rfl, ?_⟩) u1 ?_
  rotate_left
  focus (simp only [List.getElem_toArray, List.getElem_cons_zero]; intro w' hS; obtain ⟨s0, s1⟩ := hS; first | (go_simp; done) | (go_simp; with_reducible rfl))
  simp only [List.getElem_toArray, List.getElem_cons_zero, Act.put, List.setIfInBounds_toArray, List.set_cons_zero, List.set_cons_succ]
  refine wpAnyH_take (i := 2) (v := ?_) rfl (by kernel_rfl) (by kernel_rfl) (by kernel_rfl) (fun _ _ _ h => h) (Or.inl ⟨by rfl, ?_⟩) u1 ?_
  rotate_left
  focus (simp only [List.getElem_toArray, List.getElem_cons_succ, List.getElem_cons_zero]; intro w' hS; obtain ⟨s0, s1⟩ := hS; first | (go_simp; done) | (go_simp; with_reducible rfl))
  simp only [List.getElem_toArray, List.getElem_cons_succ, List.getElem_cons_zero, Act.put, List.setIfInBounds_toArray, List.set_cons_zero, List.set_cons_succ]
  refine wpAnyH_ready (rs := [1]) (by kernel_rfl) (by simp) ?_
  refine AllReadyH.cons rfl (fun K hK => ?_) AllReadyH.nil
  simp only [List.getElem_toArray, List.getElem_cons_succ, List.getElem_cons_zero]
  go_simp
  refine (CNM.out _ HB1.out.drew).mono ?_
  rintro _ w2 ⟨v2, rfl, hr2, b2⟩
  have HB2 := Lib.hid (HB1.out.drew.trans (b2.mono HB1.out.size))
  have HC2 := Lib.hid ((Below.refl w1.heap.size w1).drew.trans b2)
  have hl2 := HRL.out.below ((Below.refl _ _).drew.trans b2)
  obtain ⟨a2, c2, hv2, -, -⟩ := hr2.le
  subst hv2
  have CST := Lib.hid (sameT_any _ _ s.names w2 hr2 hl2.1 HNL.out)
  clear hr2 hl2 b2
  have u2 := HQ.out _ HB2.out
  dsimp only
  refine hK.out _ _ u2 (fun _ => ?_)
  try simp only [List.getElem_toArray, List.getElem_cons_succ, List.getElem_cons_zero, Act.put, List.setIfInBounds_toArray, List.set_cons_zero, List.set_cons_succ]
  refine wpAnyH_ready (rs := [3]) (by kernel_rfl) (by simp) ?_
  refine AllReadyH.cons rfl (fun K hK => ?_) AllReadyH.nil
  simp only [List.getElem_toArray, List.getElem_cons_succ, List.getElem_cons_zero]
  go_simp
  refine CST.out.mono ?_
  rintro _ w3 ⟨rfl, b3⟩
  have HB3 := Lib.hid (HB2.out.trans (b3.mono HB2.out.size))
  have HC3 := Lib.hid (HC2.out.trans (b3.mono HC2.out.size))
  clear b3
  have u3 := HQ.out _ HB3.out
  dsimp only
  refine hK.out _ _ u3 (fun _ => ?_)
  try simp only [List.getElem_toArray, List.getElem_cons_succ, List.getElem_cons_zero, Act.put, List.setIfInBounds_toArray, List.set_cons_zero, List.set_cons_succ]
  refine wpAnyH_take (i := 4) (v := ?_) rfl (by kernel_rfl) (by kernel_rfl) (by kernel_rfl) (fun _ _ _ h => h) (Or.inl ⟨by rfl, ?_⟩) u3 ?_
  rotate_left
  focus (simp only [List.getElem_toArray, List.getElem_cons_succ, List.getElem_cons_zero]; intro w' hS; obtain ⟨s0, s1⟩ := hS; first | (go_simp; done) | (go_simp; with_reducible rfl))
  simp only [List.getElem_toArray, List.getElem_cons_succ, List.getElem_cons_zero, Act.put, List.setIfInBounds_toArray, List.set_cons_zero, List.set_cons_succ]
  refine wpAnyH_take (i := 5) (v := ?_) rfl (by kernel_rfl) (by kernel_rfl) (by kernel_rfl) (fun _ _ _ h => h) (Or.inl ⟨by rfl, ?_⟩) u3 ?_
  rotate_left
  focus (simp only [List.getElem_toArray, List.getElem_cons_succ, List.getElem_cons_zero]; intro w' hS; obtain ⟨s0, s1⟩ := hS; first | (go_simp; done) | (go_simp; with_reducible rfl))
  simp only [List.getElem_toArray, List.getElem_cons_succ, List.getElem_cons_zero, Act.put, List.setIfInBounds_toArray, List.set_cons_zero, List.set_cons_succ]
  refine wpAnyH_take (i := 6) (v := ?_) rfl (by kernel_rfl) (by kernel_rfl) (by kernel_rfl) (fun _ _ _ h => h) (Or.inl ⟨by rfl, ?_⟩) u3 ?_
  rotate_left
  focus (simp only [List.getElem_toArray, List.getElem_cons_succ, List.getElem_cons_zero]; intro w' hS; obtain ⟨s0, s1⟩ := hS; first | (go_simp; done) | (go_simp; with_reducible rfl))
  simp only [List.getElem_toArray, List.getElem_cons_succ, List.getElem_cons_zero, Act.put, List.setIfInBounds_toArray, List.set_cons_zero, List.set_cons_succ]
  refine wpAnyH_take (i := 8) (v := ?_) rfl (by kernel_rfl) (by kernel_rfl) (by kernel_rfl) (fun _ _ _ h => h) (Or.inl ⟨by rfl, ?_⟩) u3 ?_
  rotate_left
  focus (simp only [List.getElem_toArray, List.getElem_cons_succ, List.getElem_cons_zero]; intro w' hS; obtain ⟨s0, s1⟩ := hS; first | (go_simp; done) | (go_simp; with_reducible rfl))
  simp only [List.getElem_toArray, List.getElem_cons_succ, List.getElem_cons_zero, Act.put, List.setIfInBounds_toArray, List.set_cons_zero, List.set_cons_succ]
  refine wpAnyH_ready (rs := [7]) (by kernel_rfl) (by simp) ?_
  refine AllReadyH.cons rfl (fun K hK => ?_) AllReadyH.nil
  simp only [List.getElem_toArray, List.getElem_cons_succ, List.getElem_cons_zero]
  go_simp
  refine (CUS.out _ HB3.out).mono ?_
  rintro _ w4 ⟨rfl, b4⟩
  have HB4 := Lib.hid (HB3.out.trans (b4.mono HB3.out.size))
  have HC4 := Lib.hid (HC3.out.trans (b4.mono HC3.out.size))
  clear b4
  have u4 := HQ.out _ HB4.out
  dsimp only
  refine hK.out _ _ u4 (fun _ => ?_)
  try simp only [List.getElem_toArray, List.getElem_cons_succ, List.getElem_cons_zero, Act.put, List.setIfInBounds_toArray, List.set_cons_zero, List.set_cons_succ]
  refine wpAnyH_ready (rs := [9]) (by kernel_rfl) (by simp) ?_
  refine AllReadyH.cons rfl (fun K hK => ?_) AllReadyH.nil
  simp only [List.getElem_toArray, List.getElem_cons_succ, List.getElem_cons_zero]
  go_simp
  refine (CUR.out _ HB4.out).mono ?_
  rintro _ w5 ⟨rfl, b5⟩
  have HB5 := Lib.hid (HB4.out.trans (b5.mono HB4.out.size))
  have HC5 := Lib.hid (HC4.out.trans (b5.mono HC4.out.size))
  clear b5
  have u5 := HQ.out _ HB5.out
  dsimp only
  refine hK.out _ _ u5 (fun _ => ?_)
  try simp only [List.getElem_toArray, List.getElem_cons_succ, List.getElem_cons_zero, Act.put, List.setIfInBounds_toArray, List.set_cons_zero, List.set_cons_succ]
  refine wpAnyH_take (i := 10) (v := ?_) rfl (by kernel_rfl) (by kernel_rfl) (by kernel_rfl) (fun _ _ _ h => h) (Or.inl ⟨by rfl, ?_⟩) u5 ?_
  rotate_left
  focus (simp only [List.getElem_toArray, List.getElem_cons_succ, List.getElem_cons_zero]; intro w' hS; obtain ⟨s0, s1⟩ := hS; first | (go_simp; done) | (go_simp; with_reducible rfl))
  simp only [List.getElem_toArray, List.getElem_cons_succ, List.getElem_cons_zero, Act.put, List.setIfInBounds_toArray, List.set_cons_zero, List.set_cons_succ]
  refine wpAnyH_take (i := 11) (v := ?_) rfl (by kernel_rfl) (by kernel_rfl) (by kernel_rfl) (fun _ _ _ h => h) (Or.inl ⟨by rfl, ?_⟩) u5 ?_
  rotate_left
  focus (simp only [List.getElem_toArray, List.getElem_cons_succ, List.getElem_cons_zero]; intro w' hS; obtain ⟨s0, s1⟩ := hS; first | (go_simp; done) | (go_simp; with_reducible rfl))
  simp only [List.getElem_toArray, List.getElem_cons_succ, List.getElem_cons_zero, Act.put, List.setIfInBounds_toArray, List.set_cons_zero, List.set_cons_succ]
  refine wpAnyH_take (i := 12) (v := ?_) rfl (by kernel_rfl) (by kernel_rfl) (by kernel_rfl) (fun _ _ _ h => h) (Or.inl ⟨by rfl, ?_⟩) u5 ?_
  rotate_left
  focus (simp only [List.getElem_toArray, List.getElem_cons_succ, List.getElem_cons_zero]; intro w' hS; obtain ⟨s0, s1⟩ := hS; first | (go_simp; done) | (go_simp; with_reducible rfl))
  simp only [List.getElem_toArray, List.getElem_cons_succ, List.getElem_cons_zero, Act.put, List.setIfInBounds_toArray, List.set_cons_zero, List.set_cons_succ]
  refine wpAnyH_take (i := 13) (v := ?_) rfl (by kernel_rfl) (by kernel_rfl) (by kernel_rfl) (fun _ _ _ h => h) (Or.inl ⟨by rfl, ?_⟩) u5 ?_
  rotate_left
  focus (simp only [List.getElem_toArray, List.getElem_cons_succ, List.getElem_cons_zero]; intro w' hS; obtain ⟨s0, s1⟩ := hS; first | (go_simp; done) | (go_simp; with_reducible rfl))
  simp only [List.getElem_toArray, List.getElem_cons_succ, List.getElem_cons_zero, Act.put, List.setIfInBounds_toArray, List.set_cons_zero, List.set_cons_succ]
  refine wpAnyH_take (i := 15) (v := ?_) rfl (by kernel_rfl) (by kernel_rfl) (by kernel_rfl) (fun _ _ _ h => h) (Or.inl ⟨by rfl, ?_⟩) u5 ?_
  rotate_left
  focus (simp only [List.getElem_toArray, List.getElem_cons_succ, List.getElem_cons_zero]; intro w' hS; obtain ⟨s0, s1⟩ := hS; first | (go_simp; done) | (go_simp; with_reducible rfl))
  simp only [List.getElem_toArray, List.getElem_cons_succ, List.getElem_cons_zero, Act.put, List.setIfInBounds_toArray, List.set_cons_zero, List.set_cons_succ]
  refine wpAnyH_take (i := 16) (v := ?_) rfl (by kernel_rfl) (by kernel_rfl) (by kernel_rfl) (fun _ _ _ h => h) (Or.inl ⟨by rfl, ?_⟩) u5 ?_
  rotate_left
  focus (simp only [List.getElem_toArray, List.getElem_cons_succ, List.getElem_cons_zero]; intro w' hS; obtain ⟨s0, s1⟩ := hS; first | (go_simp; done) | (go_simp; with_reducible rfl))
  simp only [List.getElem_toArray, List.getElem_cons_succ, List.getElem_cons_zero, Act.put, List.setIfInBounds_toArray, List.set_cons_zero, List.set_cons_succ]
  refine wpAnyH_take (i := 17) (v := ?_) rfl (by kernel_rfl) (by kernel_rfl) (by kernel_rfl) (fun _ _ _ h => h) (Or.inl ⟨by rfl, ?_⟩) u5 ?_
  rotate_left
  focus (simp only [List.getElem_toArray, List.getElem_cons_succ, List.getElem_cons_zero]; intro w' hS; obtain ⟨s0, s1⟩ := hS; first | (go_simp; done) | (go_simp; with_reducible rfl))
  simp only [List.getElem_toArray, List.getElem_cons_succ, List.getElem_cons_zero, Act.put, List.setIfInBounds_toArray, List.set_cons_zero, List.set_cons_succ]
  refine wpAnyH_take (i := 18) (v := ?_) rfl (by kernel_rfl) (by kernel_rfl) (by kernel_rfl) (fun _ _ _ h => h) (Or.inl ⟨by rfl, ?_⟩) u5 ?_
  rotate_left
  focus (simp only [List.getElem_toArray, List.getElem_cons_succ, List.getElem_cons_zero]; intro w' hS; obtain ⟨s0, s1⟩ := hS; first | (go_simp; done) | (go_simp; with_reducible rfl))
  simp only [List.getElem_toArray, List.getElem_cons_succ, List.getElem_cons_zero, Act.put, List.setIfInBounds_toArray, List.set_cons_zero, List.set_cons_succ]
  refine wpAnyH_ready (rs := [14]) (by kernel_rfl) (by simp) ?_
  refine AllReadyH.cons rfl (fun K hK => ?_) AllReadyH.nil
  simp only [List.getElem_toArray, List.getElem_cons_succ, List.getElem_cons_zero]
  go_simp
  refine (CON.out _ HB5.out).mono ?_
  rintro _ w6 ⟨rfl, rfl⟩
  dsimp only
  refine hK.out _ _ u5 (fun _ => ?_)
  try simp only [List.getElem_toArray, List.getElem_cons_succ, List.getElem_cons_zero, Act.put, List.setIfInBounds_toArray, List.set_cons_zero, List.set_cons_succ]
  refine wpAnyH_take (i := 19) (v := ?_) rfl (by kernel_rfl) (by kernel_rfl) (by kernel_rfl) (fun _ _ _ h => h) (Or.inl ⟨by rfl, ?_⟩) u5 ?_
  rotate_left
  focus (simp only [List.getElem_toArray, List.getElem_cons_succ, List.getElem_cons_zero]; intro w' hS; obtain ⟨s0, s1⟩ := hS; first | (go_simp; done) | (go_simp; with_reducible rfl))
  simp only [List.getElem_toArray, List.getElem_cons_succ, List.getElem_cons_zero, Act.put, List.setIfInBounds_toArray, List.set_cons_zero, List.set_cons_succ]
  refine wpAnyH_take (i := 20) (v := ?_) rfl (by kernel_rfl) (by kernel_rfl) (by kernel_rfl) (fun _ _ _ h => h) (Or.inl ⟨by rfl, ?_⟩) u5 ?_
  rotate_left
  focus (simp only [List.getElem_toArray, List.getElem_cons_succ, List.getElem_cons_zero]; intro w' hS; obtain ⟨s0, s1⟩ := hS; first | (go_simp; done) | (go_simp; with_reducible rfl))
  simp only [List.getElem_toArray, List.getElem_cons_succ, List.getElem_cons_zero, Act.put, List.setIfInBounds_toArray, List.set_cons_zero, List.set_cons_succ]
  refine wpAnyH_take (i := 21) (v := ?_) rfl (by kernel_rfl) (by kernel_rfl) (by kernel_rfl) (fun _ _ _ h => h) (Or.inl ⟨by rfl, ?_⟩) u5 ?_
  rotate_left
  focus (simp only [List.getElem_toArray, List.getElem_cons_succ, List.getElem_cons_zero]; intro w' hS; obtain ⟨s0, s1⟩ := hS; first | (go_simp; done) | (go_simp; with_reducible rfl))
  simp only [List.getElem_toArray, List.getElem_cons_succ, List.getElem_cons_zero, Act.put, List.setIfInBounds_toArray, List.set_cons_zero, List.set_cons_succ]
  refine wpAnyH_take (i := 22) (v := ?_) rfl (by kernel_rfl) (by kernel_rfl) (by kernel_rfl) (fun _ _ _ h => h) (Or.inl ⟨by rfl, ?_⟩) u5 ?_
  rotate_left
  focus (simp only [List.getElem_toArray, List.getElem_cons_succ, List.getElem_cons_zero]; intro w' hS; obtain ⟨s0, s1⟩ := hS; first | (go_simp; done) | (go_simp; with_reducible rfl))
  simp only [List.getElem_toArray, List.getElem_cons_succ, List.getElem_cons_zero, Act.put, List.setIfInBounds_toArray, List.set_cons_zero, List.set_cons_succ]
  refine wpAnyH_take (i := 24) (v := ?_) rfl (by kernel_rfl) (by kernel_rfl) (by kernel_rfl) (fun _ _ _ h => h) (Or.inl ⟨by rfl, ?_⟩) u5 ?_
  rotate_left
  focus (simp only [List.getElem_toArray, List.getElem_cons_succ, List.getElem_cons_zero]; intro w' hS; obtain ⟨s0, s1⟩ := hS; first | (go_simp; done) | (go_simp; with_reducible rfl))
  simp only [List.getElem_toArray, List.getElem_cons_succ, List.getElem_cons_zero, Act.put, List.setIfInBounds_toArray, List.set_cons_zero, List.set_cons_succ]
  refine wpAnyH_take (i := 25) (v := ?_) rfl (by kernel_rfl) (by kernel_rfl) (by kernel_rfl) (fun _ _ _ h => h) (Or.inl ⟨by rfl, ?_⟩) u5 ?_
  rotate_left
  focus (simp only [List.getElem_toArray, List.getElem_cons_succ, List.getElem_cons_zero]; intro w' hS; obtain ⟨s0, s1⟩ := hS; first | (go_simp; done) | (go_simp; with_reducible rfl))
  simp only [List.getElem_toArray, List.getElem_cons_succ, List.getElem_cons_zero, Act.put, List.setIfInBounds_toArray, List.set_cons_zero, List.set_cons_succ]
  refine wpAnyH_take (i := 26) (v := ?_) rfl (by kernel_rfl) (by kernel_rfl) (by kernel_rfl) (fun _ _ _ h => h) (Or.inl ⟨by rfl, ?_⟩) u5 ?_
  rotate_left
  focus (simp only [List.getElem_toArray, List.getElem_cons_succ, List.getElem_cons_zero]; intro w' hS; obtain ⟨s0, s1⟩ := hS; first | (go_simp; done) | (go_simp; with_reducible rfl))
  simp only [List.getElem_toArray, List.getElem_cons_succ, List.getElem_cons_zero, Act.put, List.setIfInBounds_toArray, List.set_cons_zero, List.set_cons_succ]
  refine wpAnyH_take (i := 27) (v := ?_) rfl (by kernel_rfl) (by kernel_rfl) (by kernel_rfl) (fun _ _ _ h => h) (Or.inl ⟨by rfl, ?_⟩) u5 ?_
  rotate_left
  focus (simp only [List.getElem_toArray, List.getElem_cons_succ, List.getElem_cons_zero]; intro w' hS; obtain ⟨s0, s1⟩ := hS; first | (go_simp; done) | (go_simp; with_reducible rfl))
  simp only [List.getElem_toArray, List.getElem_cons_succ, List.getElem_cons_zero, Act.put, List.setIfInBounds_toArray, List.set_cons_zero, List.set_cons_succ]
  refine wpAnyH_ready (rs := [23]) (by kernel_rfl) (by simp) ?_
  refine AllReadyH.cons rfl (fun K hK => ?_) AllReadyH.nil
  simp only [List.getElem_toArray, List.getElem_cons_succ, List.getElem_cons_zero]
  go_simp
  refine (CSE.out _ HB5.out).mono ?_
  rintro _ w7 ⟨rfl, rfl⟩
  dsimp only
  refine hK.out _ _ u5 (fun _ => ?_)
  try simp only [List.getElem_toArray, List.getElem_cons_succ, List.getElem_cons_zero, Act.put, List.setIfInBounds_toArray, List.set_cons_zero, List.set_cons_succ]
  refine wpAnyH_take (i := 28) (v := ?_) rfl (by kernel_rfl) (by kernel_rfl) (by kernel_rfl) (fun _ _ _ h => h) (Or.inl ⟨by rfl, ?_⟩) u5 ?_
  rotate_left
  focus (simp only [List.getElem_toArray, List.getElem_cons_succ, List.getElem_cons_zero]; intro w' hS; obtain ⟨s0, s1⟩ := hS; first | (go_simp; done) | (go_simp; with_reducible rfl))
  simp only [List.getElem_toArray, List.getElem_cons_succ, List.getElem_cons_zero, Act.put, List.setIfInBounds_toArray, List.set_cons_zero, List.set_cons_succ]
  refine wpAnyH_take (i := 29) (v := ?_) rfl (by kernel_rfl) (by kernel_rfl) (by kernel_rfl) (fun _ _ _ h => h) (Or.inl ⟨by rfl, ?_⟩) u5 ?_
  rotate_left
  focus (simp only [List.getElem_toArray, List.getElem_cons_succ, List.getElem_cons_zero]; intro w' hS; obtain ⟨s0, s1⟩ := hS; first | (go_simp; done) | (go_simp; with_reducible rfl))
  simp only [List.getElem_toArray, List.getElem_cons_succ, List.getElem_cons_zero, Act.put, List.setIfInBounds_toArray, List.set_cons_zero, List.set_cons_succ]
  refine wpAnyH_done (by kernel_rfl) ?_ _
  refine NoPanic.normal ?_
  go_wp2
  go_loopw [6] (fun iv wr => ∃ i : Nat, iv = .int .i64 (i : Int) ∧ i ≤ s.names.length ∧ Below w5.heap.size w5 wr) (fun iv _ => s.names.length - (intOf iv).toNat)
  case atStart => exact ⟨0, rfl, Nat.zero_le _, Below.refl _ _⟩
  case round =>
    obtain ⟨i, rfl, hi, hbr⟩ := hrel
    have HBR := Lib.hid hbr
    have HBW := Lib.hid (HB5.out.trans (hbr.mono HB5.out.size))
    by_cases hlt : i < s.names.length
    · have hiI : (i : Int) < (s.names.length : Int) := by omega
      have hbc := HC5.out.trans (hbr.mono HC5.out.size)
      rcases HRL.out.cases with ⟨h0, -⟩ | ⟨g, cap, e, -, -, -, -, hg, hc⟩
      · omega
      cases e
      have z0 : wr.cell? ⟨g, i, none⟩ = some (.string ⟨s.names[i].toArray⟩) := (hbc.cell (p := ⟨g, i, none⟩) hg).trans (hc i _ (by
        unfold nmVals
        rw [List.getElem?_map, List.getElem?_eq_getElem hlt]
        rfl))
      have hlen := HWF.out _ (List.getElem_mem hlt)
      have CA := Lib.hid (CRD.out wr HBW.out ⟨s.names[i].toArray⟩ (by simp [ByteArray.size, maxLen]; omega))
      have CB := Lib.hid (CRR.out wr HBW.out ⟨s.names[i].toArray⟩)
      clear hbr hbc hc hlen
      generalize (⟨s.names[i].toArray⟩ : ByteArray) = NM at *
      generalize s.read NM.data.toList = R at *
      obtain ⟨R1, R2⟩ := R
      unfold readV at CA CB
      go_wp2_with (first | (go_at_call 16; (with_reducible refine CA.out.mono ?_); rintro e w8 ⟨rfl, rfl⟩) | (go_at_call 17; (with_reducible refine CB.out.mono ?_); rintro e w9 ⟨rfl, hb9⟩) | fail)
      go_roundw
      case rel => exact ⟨i + 1, by go_num, hlt, HBR.out.trans (hb9.mono HBR.out.size)⟩
      case measure => simp [intOf]; omega
    · have dk : decide ((i : Int) < (s.names.length : Int)) = false := decide_eq_false (by omega)
      clear hbr
      go_wp2
      go_ret
      exact ⟨rfl, HBW.out⟩
end
end Go.Proofs.YtfndlfnlepndmaaGreat
