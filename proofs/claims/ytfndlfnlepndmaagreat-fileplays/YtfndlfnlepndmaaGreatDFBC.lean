/- Joined: DFB DFC. -/
import Derived.Test.YtfndlfnlepndmaaGreatDF9
namespace Go.Proofs.YtfndlfnlepndmaaGreat
open Go.RowKit

theorem rmod_any (x : Int) (b : Nat) (w : World) (hb2 : b ≤ 1000000000000) :
    Calls Tryz.prog 128 #[.int .i64 x, .int .i64 (b : Int)] w fun e w' => e = .returned (.int .i64 (modn x (b + 1) : Nat)) ∧ w' = w := by
  have h0 : (0 : Int) < ((b : Int) + 1) := by omega
  have h3 := Int.tmod_lt_of_pos x h0
  have h4 := tmod_low x h0
  have e : (modn x (b + 1) : Int) = if x.tmod ((b : Int) + 1) < 0 then x.tmod ((b : Int) + 1) + (b : Int) + 1 else x.tmod ((b : Int) + 1) := by
    have h := tmod_modn x (b + 1) (by omega)
    rw [show (((b + 1 : Nat)) : Int) = (b : Int) + 1 by omega] at h
    rw [← h, Int.add_emod_right]
    split
    · rw [← Int.add_emod_right, Int.emod_eq_of_lt (by omega) (by omega)]
      omega
    · exact Int.emod_eq_of_lt (by omega) (by omega)
  have HE := Lib.hid e
  have hz : ((b : Int) + 1 == 0) = false := by simp; omega
  clear e
  by_cases hy : x.tmod ((b : Int) + 1) < 0
  · rw [if_pos hy] at HE
    go_enter Tryz.func128, Tryz.ntmps128
    go_wp2
    go_ret
    rw [HE.out]
    exact ⟨rfl, rfl⟩
  · rw [if_neg hy] at HE
    have dy : decide (x.tmod ((b : Int) + 1) < 0) = false := decide_eq_false hy
    go_enter Tryz.func128, Tryz.ntmps128
    go_wp2
    go_ret
    rw [HE.out]
    exact ⟨rfl, rfl⟩
theorem rnew_any (room : Int) (w : World) : Calls Tryz.prog 7 #[.int .i64 room] w fun e w' => e = .returned (.pointer (some ⟨w.heap.size, 0, none⟩)) ∧ (∃ x, RefAt w' w.heap.size (St.new room) x ∧ x.foot = []) ∧ Below w.heap.size w w' ∧ w.heap.size < w'.heap.size := by
  go_enter Tryz.func7, Tryz.ntmps7
  go_wp2
  go_ret
  refine ⟨rfl, ⟨⟨.slice none 0 0, .slice none 0 0, .slice none 0 0, .slice none 0 0, []⟩, ⟨blockZ _ _ rfl, rowZ_nil _ _ _, rowZ_nil _ _ _, rowZ_nil _ _ _, row_nil _ _ _, rfl, ?_, fun _ hc => (by cases hc)⟩, rfl⟩, (Below.refl _ _).alloc (Nat.le_refl _) _, by simp⟩
  intro k hk
  have : k = 0 := by simpa [St.new] using hk
  subst this
  rfl
end Go.Proofs.YtfndlfnlepndmaaGreat

namespace Go.Proofs.YtfndlfnlepndmaaGreat
open Go.RowKit

/-- What is synced of each file is there. -/
def FilOk (F : List Fil) : Prop := ∀ f ∈ F, f.syn ≤ f.b.length
theorem cut_len (f : Fil) (k : Int) (h : f.syn ≤ f.b.length) : (f.cut k).b.length = f.syn + modn k (f.b.length - f.syn + 1) ∧ (f.cut k).syn = f.syn + modn k (f.b.length - f.syn + 1) ∧ f.syn + modn k (f.b.length - f.syn + 1) ≤ f.b.length := by
  have := modn_lt k (f.b.length - f.syn + 1) (by omega)
  refine ⟨?_, rfl, by omega⟩
  show (f.b.take _).length = _
  rw [List.length_take]
  omega
theorem FilOk.set {F : List Fil} (h : FilOk F) (i : Nat) {f : Fil} (hf : f.syn ≤ f.b.length) : FilOk (F.set i f) := fun g hg => by
  rcases List.mem_or_eq_of_mem_set hg with h1 | h1
  · exact h g h1
  · rw [h1]
    exact hf
theorem redo_q {N : Nat} : ∀ (l : List Chg) (d : Dir), (∀ p ∈ d, p.2 < N ∧ isNm p.1 = true) → (∀ c ∈ l, (∀ i, c.made = some i → i < N) ∧ (c.dst = [] ∨ isNm c.dst = true)) → ∀ p ∈ redo d l, p.2 < N ∧ isNm p.1 = true
  | [], _, h, _ => h
  | c :: l, d, h, hc => redo_q l (c.run d) (Chg.run_mem h fun a hd hf => by
      obtain ⟨h1, h2⟩ := hc c List.mem_cons_self
      refine ⟨?_, h2.resolve_left hd⟩
      unfold Chg.file at hf
      split at hf
      · exact h1 a hf
      · exact (h _ (mem_of_dget hf)).1) fun c' hc' => hc c' (List.mem_cons_of_mem _ hc')
theorem WF.redoq {s : St} (h : WF s) (k : Nat) : ∀ p ∈ redo s.last (s.pend.take k), p.2 < s.files.length ∧ isNm p.1 = true :=
  redo_q _ _ (fun p hp => ⟨h.ids p hp, h.nms p hp⟩) fun c hc => ⟨h.made c (List.mem_of_mem_take hc), (h.cnms c (List.mem_of_mem_take hc)).2⟩
theorem again_step {s : St} {cs : List Cz} (hl : cs.length = s.pend.length) (h : ∀ k, k ≤ s.pend.length → (cs.take k).foldl (fun d c => c.run d) s.last = redo s.last (s.pend.take k)) (k : Nat) (hk : k < cs.length) : (cs[k]).run (redo s.last (s.pend.take k)) = redo s.last (s.pend.take (k + 1)) := by
  rw [← h k (by omega), ← h (k + 1) (by omega), List.take_succ_eq_append_getElem hk, List.foldl_append]
  rfl
theorem extractZ (B : List UInt8) (n : Nat) : (⟨B.toArray⟩ : ByteArray).extract 0 n = ⟨(B.take n).toArray⟩ := by
  apply ByteArray.ext
  simp
theorem cellsF_set2 (F : List Fil) (i : Nat) (h : i < F.length) (b : List UInt8) (t : Nat) : ((cellsF F).set (i * 2) (.string ⟨b.toArray⟩)).set (i * 2 + 1) (.int .i64 (t : Int)) = cellsF (F.set i ⟨b, t⟩) := by
  have e1 : (cellsF F).set (i * 2) (.string ⟨b.toArray⟩) = cellsF (F.set i ⟨b, F[i].syn⟩) := (flat_set cellF_len F i h 0 (by decide) _ ⟨b, F[i].syn⟩ (by unfold cellF; rfl)).symm
  have h2 : i < (F.set i ⟨b, F[i].syn⟩).length := by simpa using h
  have e2 : (cellsF (F.set i ⟨b, F[i].syn⟩)).set (i * 2 + 1) (.int .i64 (t : Int)) = cellsF ((F.set i ⟨b, F[i].syn⟩).set i ⟨b, t⟩) := (flat_set cellF_len _ i h2 1 (by decide) _ ⟨b, t⟩ (by rw [List.getElem_set_self]; unfold cellF; rfl)).symm
  rw [e1, e2, List.set_set]
theorem Cz.len : ∀ c : Cz, c.cells.length = 4 := fun _ => rfl
section
variable {w w' : World} {q n m : Nat} {s s' : St} {x : RefV}
theorem RefAt.pendrd (h : RefAt w q s x) (k : Nat) (hk : k < x.cs.length) : ∃ g c, x.p = .slice (some ⟨g, 0, none⟩) x.cs.length c ∧ g < w.heap.size ∧ w.cell? ⟨g, k * 4, none⟩ = some (.int .i64 x.cs[k].kind) ∧ w.cell? ⟨g, k * 4 + 1, none⟩ = some (.string ⟨x.cs[k].name.toArray⟩) ∧ w.cell? ⟨g, k * 4 + 2, none⟩ = some (.string ⟨x.cs[k].dst.toArray⟩) ∧ w.cell? ⟨g, k * 4 + 3, none⟩ = some (.int .i64 (x.cs[k].file : Int)) := by
  rcases h.pend.cases with ⟨h0, -⟩ | ⟨g, cap, e, ho, -, h1, h2, hg, hc⟩
  · omega
  · exact ⟨g, cap, e, hg, hc _ _ (by have := flat_get Cz.len x.cs k hk 0 _ rfl; rw [Nat.add_zero] at this; exact this), hc _ _ (flat_get Cz.len x.cs k hk 1 _ rfl), hc _ _ (flat_get Cz.len x.cs k hk 2 _ rfl), hc _ _ (flat_get Cz.len x.cs k hk 3 _ rfl)⟩
theorem RefAt.put58 (h : RefAt w q s x) {v v5 : Value} {d : Dir} {fs : List Fil} (hv : DirZ w v d) (hf : Row w 96 2 v5 fs.length (cellsF fs)) :
    RefAt ((((w.setCell ⟨q, 5, none⟩ v).setCell ⟨q, 6, none⟩ v).setCell ⟨q, 7, none⟩ (.slice none 0 0)).setCell ⟨q, 8, none⟩ v5) q { s with last := d, now := d, pend := [], files := fs } ⟨v, v, .slice none 0 0, v5, []⟩ := by
  have n1 := rowZ_ne hv h.box (by decide)
  have n2 := row_neZ hf h.box (by decide)
  refine ⟨?_, (((hv.off n1 _ _).off n1 _ _).off n1 _ _).off n1 _ _, (((hv.off n1 _ _).off n1 _ _).off n1 _ _).off n1 _ _, rowZ_nil _ _ _, (((hf.offZ n2 _ _).offZ n2 _ _).offZ n2 _ _).offZ n2 _ _, rfl, ?_, fun _ hc => (by cases hc)⟩
  · exact heap_setCell_same _ q 8 _ _ v5 (heap_setCell_same _ q 7 _ _ _ (heap_setCell_same _ q 6 _ _ v (heap_setCell_same w q 5 _ _ v h.box)))
  · intro k hk
    have : k = 0 := by simpa using hk
    subst this
    rfl
set_option maxHeartbeats 16000000 in
set_option maxRecDepth 100000 in
theorem rcrash_any (h : RefAt w q s x) (hd : DocOk n m s) (hs : FilOk s.files) (hN : n ≤ 100000) (hM : m ≤ 1000000000) (dir : Int) (a : Option Addr) (cap : Nat) (ks : List Int)
    (hK : ∀ W', Turn [q] w W' → ∀ i (h : i < ks.length), ∃ g o, a = some ⟨g, o, none⟩ ∧ W'.cell? ⟨g, o + i, none⟩ = some (.int .i64 ks[i])) :
    Calls Tryz.prog 49 #[.pointer (some ⟨q, 0, none⟩), .int .i64 dir, .slice a ks.length cap] w fun e w' => e = .returned (.tuple #[]) ∧ NextR w q x (s.crash dir ks) w' := by
  have c1 := h.cell 1 (.bool s.on) rfl
  have c2 := h.cell 2 (.int .i64 s.fuse) rfl
  have c3 := h.cell 3 (.int .i64 s.bad) rfl
  have f1 := h.warm 1
  have f2 := h.warm 2
  have f3 := h.warm 3
  obtain ⟨W1, hW1⟩ : ∃ W1, ((w.setCell ⟨q, 1, none⟩ (.bool false)).setCell ⟨q, 2, none⟩ (.int .i64 (-1))).setCell ⟨q, 3, none⟩ (.int .i64 (-1)) = W1 := ⟨_, rfl⟩
  have hr1 : RefAt W1 q { s with on := false, fuse := -1, bad := -1 } x := by
    rw [← hW1]
    exact ((h.set (s' := { s with on := false }) 1 (.bool false) rfl rfl rfl rfl rfl).set (s' := { s with on := false, fuse := -1 }) 2 (.int .i64 (-1)) rfl rfl rfl rfl rfl).set (s' := { s with on := false, fuse := -1, bad := -1 }) 3 (.int .i64 (-1)) rfl rfl rfl rfl rfl
  have ht1 : Turn [q] w W1 := by
    rw [← hW1]
    exact (((Turn.refl _ _).setCell (.inl (by simp)) _).setCell (.inl (by simp)) _).setCell (.inl (by simp)) _
  have hz1 : W1.heap.size = w.heap.size := by rw [← hW1]; simp
  obtain ⟨K, hKe⟩ : ∃ K, K = modn dir (x.cs.length + 1) := ⟨_, rfl⟩
  have hKl : K ≤ x.cs.length := by rw [hKe]; have := modn_lt dir (x.cs.length + 1) (by omega); omega
  have hpl := hd.pendl
  have hcl : x.cs.length ≤ 1000000 := by rw [h.len]; omega
  have HMO := Lib.hid (fun W => rmod_any dir x.cs.length W (by omega))
  rw [← hKe] at HMO
  obtain ⟨D, hD⟩ : ∃ D, D = redo s.last (s.pend.take K) := ⟨_, rfl⟩
  have HCR := Lib.hid (show s.crash dir ks = { s with on := false, fuse := -1, bad := -1, now := D, last := D, pend := [], files := cuts s.files D ks } by
    rw [hD, hKe, h.len]
    rfl)
  have hDl : ∀ k, (redo s.last (s.pend.take k)).length ≤ 1000000 := fun k => by
    have h1 := redo_length (s.pend.take k) s.last
    have h2 := hd.lim.dirs
    rw [List.length_take] at h1
    omega
  have HDL := Lib.hid hDl
  have HQ := Lib.hid (fun k => hd.wf.redoq k)
  have HST := Lib.hid (again_step h.len h.again)
  have HSM := Lib.hid h.small
  have hfl : s.files.length ≤ 1000000 := by have := hd.lim.files; omega
  have HBY := Lib.hid hd.lim.bytes
  have HFO := Lib.hid hs
  have HKK := Lib.hid hK
  have HR1 := Lib.hid (show ∀ W, Below W1.heap.size W1 W → RefAt W q { s with on := false, fuse := -1, bad := -1 } x from fun W hb => hr1.below hb)
  obtain ⟨pa, pcap, hpv, hpc, hpm⟩ := hr1.pend.le
  have c7 := hr1.cell 7 (.slice pa x.cs.length pcap) (by rw [← hpv]; rfl)
  have c5 := hr1.cell 5 x.s rfl
  have HPV := Lib.hid hpv
  have HT1 := Lib.hid ht1
  have HSA := Lib.hid hr1.safe
  have HD := Lib.hid hD
  have HX := Lib.hid h.foot_lt
  have hqlt : q < W1.heap.size := hr1.lt
  clear h hd hs hDl hr1 ht1 hpv hD hpl hK hKe
  go_enter Tryz.func49, Tryz.ntmps49
  go_wp2_with (first | (go_at_call 128; (with_reducible refine (HMO.out _).mono ?_); rintro e w2 ⟨rfl, hw2⟩; replace hw2 := hw2.symm; subst hw2) | fail)
  go_loopw [6, 8] (fun lv iv wr => ∃ (k : Nat) (V : Value), V = lv ∧ iv = .int .i64 (k : Int) ∧ k ≤ K ∧ DirZ wr V (redo s.last (s.pend.take k)) ∧ (∀ b, ob V = some b → ob x.s = some b ∨ w.heap.size ≤ b) ∧ Below W1.heap.size W1 wr) (fun _ iv _ => K - (intOf iv).toNat)
  case atStart => exact ⟨0, x.s, rfl, rfl, Nat.zero_le _, by rw [List.take_zero]; exact HSA.out, fun b hb => .inl hb, Below.refl _ _⟩
  case round =>
    obtain ⟨k, V, rfl, rfl, hk, hrow, hob, hbl⟩ := hrel
    have HOB := Lib.hid hob
    have HBL := Lib.hid hbl
    have hr := HR1.out wr hbl
    have c7 := hr.cell 7 (.slice pa x.cs.length pcap) (by rw [← HPV.out]; rfl)
    have c8 := hr.cell 8 x.f rfl
    by_cases hlt : k < K
    · have hkI : (k : Int) < (K : Int) := by omega
      have hkc : k < x.cs.length := by omega
      have hkcI : (k : Int) < (x.cs.length : Int) := by omega
      obtain ⟨g, c, hxp, hg, p0, p1, p2, p3⟩ := hr.pendrd k hkc
      rw [HPV.out] at hxp
      simp only [Value.slice.injEq, true_and] at hxp
      obtain ⟨rfl, rfl⟩ := hxp
      obtain ⟨m1, m2⟩ := HSM.out _ (List.getElem_mem hkc)
      have CC := Lib.hid (change_any hrow x.cs[k] (HDL.out k) m1 m2 (fun p hp => by have := (nm_len (HQ.out k p hp).2).2; omega))
      rw [HST.out k hkc] at CC
      clear hr hrow hob hbl m1 m2
      generalize x.cs[k] = C at *
      go_wp2_with (first | (go_at_call 129; (with_reducible refine CC.out.mono ?_); rintro e w3 ⟨v3, rfl, hrow3, hfr3, hb3⟩) | fail)
      go_roundw
      case rel =>
        have hb := HBL.out.trans (hb3.mono HBL.out.size)
        exact ⟨k + 1, v3, rfl, by go_num, hlt, hrow3, fun b hb' => .inr (by have h1 := hfr3 b hb'; have h2 := HBL.out.size; omega), hb⟩
      case measure => simp [intOf]; omega
    · have dk : decide ((k : Int) < (K : Int)) = false := by simp; omega
      have hkK : k = K := by omega
      have HV := Lib.hid (show DirZ wr V D by rw [HD.out, ← hkK]; exact hrow)
      have HRW := Lib.hid hr
      obtain ⟨i0, hi0, hz0, hzs, hzb⟩ := info_parts infoFZ
      have HBa := Lib.hid (show 0 + s.files.length ≤ maxLen by unfold maxLen; omega)
      have HBb := Lib.hid (show (0 + s.files.length) * 24 ≤ 140737488355328 by omega)
      clear hrow hob hbl hr hkK
      obtain ⟨wo, hwo⟩ : ∃ wo, wo = wr := ⟨_, rfl⟩
      subst hwo
      go_wp2_with (first | (at_builtin; refine wpList_append_row _ rfl _ _ 73 73 rfl 96 i0 _ 2 24 Tryz.underlying73 hi0 hz0 hzs hzb rfl (.slice none 0 0) 0 [] rfl (row_nil _ _ _) _ rfl s.files.length (cellsF s.files) (HRW.out.files.srcZ Tryz.underlying73 (cellsF_one _)) HBa.out HBb.out ?_) | fail)
      intro v5 w5 hrow5 hgrow5 hob5
      have hb5 : Below wo.heap.size wo w5 := below_row2 (Below.refl _ _) (Nat.le_refl _) hgrow5 (fun b hb => noneZ hb)
      have hv5 : ∀ b, ob v5 = some b → wo.heap.size ≤ b := fun b hb => ob_new2 hob5 (Nat.le_refl _) (fun b hb => noneZ hb) b hb
      try simp only [Nat.zero_add, List.nil_append] at hrow5
      have HROW5 := Lib.hid hrow5
      have HB5 := Lib.hid hb5
      have HV5 := Lib.hid hv5
      obtain ⟨av, capv, rfl, hvc, hvm⟩ := HV.out.le
      clear hrow5 hb5 hv5 hgrow5 hob5
      go_wp2_with fail
      go_loopw [10] (fun iv wx => ∃ (i : Nat) (F : List Fil), iv = .int .i64 (i : Int) ∧ i ≤ D.length ∧ Row wx 96 2 v5 s.files.length (cellsF F) ∧ F.length = s.files.length ∧ cuts F (D.drop i) (ks.drop i) = cuts s.files D ks ∧ FilOk F ∧ (∀ f ∈ F, f.b.length ≤ m) ∧ Below wo.heap.size wo wx) (fun iv _ => D.length - (intOf iv).toNat)
      case atStart => exact ⟨0, s.files, rfl, Nat.zero_le _, HROW5.out, rfl, rfl, HFO.out, HBY.out, HB5.out⟩
      case round =>
        obtain ⟨i, F, rfl, hi, hrow, hFl, hcut, hfo, hby, hbx⟩ := hrel
        have HBX := Lib.hid hbx
        have HROW := Lib.hid hrow
        have HCUT := Lib.hid hcut
        have HFO2 := Lib.hid hfo
        have HBY2 := Lib.hid hby
        by_cases hlt : i < D.length
        · have hiI : (i : Int) < (D.length : Int) := by omega
          obtain ⟨g, rfl, hg, -, -, q1⟩ := DirZ.rd (HV.out.below hbx) rfl i hlt
          have hid : D[i].2 < s.files.length := (HQ.out K D[i] (by rw [← HD.out]; exact List.getElem_mem hlt)).1
          have hidI : (D[i].2 : Int) < (s.files.length : Int) := by omega
          have hid0 : (0 : Int) ≤ (D[i].2 : Int) := by omega
          rcases (show RowZ wr 96 2 v5 s.files.length (cellsF F) from ⟨hrow, fun h0 => by omega⟩).cases with ⟨h0, -⟩ | ⟨g5, cap5, hv5e, ho5, -, h51, h52, hg5, hcc⟩
          · omega
          subst hv5e
          have hgt5 := HV5.out g5 ho5
          have hidF : D[i].2 < F.length := by omega
          have p0 : wr.cell? ⟨g5, D[i].2 * 2, none⟩ = some (.string ⟨F[D[i].2].b.toArray⟩) := hcc _ _ (by have := flat_get cellF_len F _ hidF 0 _ rfl; rw [Nat.add_zero] at this; exact this)
          have p1 : wr.cell? ⟨g5, D[i].2 * 2 + 1, none⟩ = some (.int .i64 (F[D[i].2].syn : Int)) := hcc _ _ (flat_get cellF_len F _ hidF 1 _ rfl)
          have pf0 : wr.frozen? ⟨g5, D[i].2 * 2, none⟩ = false := hrow.warm rfl (by omega) _
          have pf1 : wr.frozen? ⟨g5, D[i].2 * 2 + 1, none⟩ = false := hrow.warm rfl (by omega) _
          have hok := hfo _ (List.getElem_mem hidF)
          have hle := hby _ (List.getElem_mem hidF)
          have hgg : g ≠ g5 := fun e => by
            have := HV.out.1.lt g (by cases capv with | zero => omega | succ c => rfl)
            omega
          have HID := Lib.hid hid
          clear hrow hcut hfo hby hcc ho5 hid hbx
          generalize hFe : F[D[i].2] = f at *
          generalize hidE : D[i].2 = id at *
          obtain ⟨B, sy⟩ := f
          obtain ⟨wa, hwa⟩ : ∃ wa, wr.alloc (.cells #[.string ⟨B.toArray⟩, .int .i64 (sy : Int)] 96) = wa := ⟨_, rfl⟩
          have hba : Below wr.heap.size wr wa := by rw [← hwa]; exact (Below.refl _ _).alloc (Nat.le_refl _) _
          have hblk : wa.heap[wr.heap.size]? = some (.cells #[.string ⟨B.toArray⟩, .int .i64 (sy : Int)] 96) := by rw [← hwa]; exact blockZ _ _ rfl
          have hxs : wr.heap.size < wa.heap.size := by rw [← hwa]; simp
          have b0 : wa.cell? ⟨wr.heap.size, 0, none⟩ = some (.string ⟨B.toArray⟩) := by simp [World.cell?, hblk]
          have b1 : wa.cell? ⟨wr.heap.size, 1, none⟩ = some (.int .i64 (sy : Int)) := by simp [World.cell?, hblk]
          have bf0 : wa.frozen? ⟨wr.heap.size, 0, none⟩ = false := by simp [World.frozen?, hblk]
          have bf1 : wa.frozen? ⟨wr.heap.size, 1, none⟩ = false := by simp [World.frozen?, hblk]
          have hgw : g < wr.heap.size := by have h1 := HBX.out.size; omega
          have r1 := (hba.cell (p := ⟨g, i * 2 + 1, none⟩) hgw).trans q1
          have r2 := (hba.cell (p := ⟨g5, id * 2, none⟩) hg5).trans p0
          have r3 := (hba.cell (p := ⟨g5, id * 2 + 1, none⟩) hg5).trans p1
          have rf2 : wa.frozen? ⟨g5, id * 2, none⟩ = false := (World.frozen?_of_block (hba.block g5 hg5)).trans pf0
          have rf3 : wa.frozen? ⟨g5, id * 2 + 1, none⟩ = false := (World.frozen?_of_block (hba.block g5 hg5)).trans pf1
          have HBA := Lib.hid hba
          replace hok : sy ≤ B.length := hok
          replace hle : B.length ≤ m := hle
          obtain ⟨kk, hkk⟩ : ∃ kk, kk = modn ((ks.drop i).headD 0) (B.length - sy + 1) := ⟨_, rfl⟩
          have hkkl : sy + kk ≤ B.length := by rw [hkk]; have := modn_lt ((ks.drop i).headD 0) (B.length - sy + 1) (by omega); omega
          have HKK2 := Lib.hid (show cuts F (D.drop i) (ks.drop i) = cuts (F.set id ⟨B.take (sy + kk), sy + kk⟩) (D.drop (i + 1)) (ks.drop (i + 1)) by
            rw [cuts_step F D ks i hlt, hidE, getD_in hidF, hFe, hkk]
            rfl)
          have hDl : D.length ≤ 1000000 := by rw [HD.out]; exact HDL.out K
          have hg5w : wr.heap.size ≠ g5 := by omega
          have hg5g : g5 ≠ g := fun e => hgg e.symm
          have hg5x : g5 ≠ wr.heap.size := by omega
          have hgx : g ≠ wr.heap.size := by omega
          by_cases hik : i < ks.length
          · have hikI : (i : Int) < (ks.length : Int) := by omega
            obtain ⟨gk, ok, rfl, k0⟩ := HKK.out wa ((HT1.out.trans (turnZ [q] ((HBL.out.trans (HBX.out.mono HBL.out.size)).trans (hba.mono (by have h1 := HBL.out.size; have h2 := HBX.out.size; omega)))) (by simp))) i hik
            have CM := Lib.hid (fun W => rmod_any ks[i] (B.length - sy) W (by omega))
            rw [show modn ks[i] (B.length - sy + 1) = kk by rw [hkk, headD_drop, dif_pos hik], show ((B.length - sy : Nat) : Int) = (B.length : Int) - (sy : Int) by omega] at CM
            clear hkk hba hblk
            go_wp2_with fail
            clear hwa q1 p0 p1 pf0 pf1
            go_quiet ((go_at_call 128; exact Calls.quiet_of_same (CM.out _)))
            obtain ⟨wb, hwb⟩ : ∃ wb, wa.drewN nq = wb := ⟨_, rfl⟩
            have he : ∀ p, wb.cell? p = wa.cell? p := fun p => by rw [← hwb]; rfl
            have hef : ∀ p, wb.frozen? p = wa.frozen? p := fun p => by rw [← hwb]; rfl
            have hbX : Below wr.heap.size wr wb := by rw [← hwb]; exact drewNZ HBA.out _
            clear HBA
            have HBA := Lib.hid hbX
            clear hbX
            rw [← he] at b0 b1 r1 r2 r3
            rw [← hef] at bf0 bf1 rf2 rf3
            rw [hwb]
            clear hwb he hef k0
            obtain ⟨wa', hwa'⟩ : ∃ wa', wa' = wa := ⟨_, rfl⟩
            subst hwa'
            obtain ⟨wa, hwa⟩ : ∃ wa, wa = wb := ⟨_, rfl⟩
            subst hwa
            have w0 : ((wa.setCell ⟨wr.heap.size, 0, none⟩ (.string ((⟨B.toArray⟩ : ByteArray).extract 0 (sy + kk)))).setCell ⟨wr.heap.size, 1, none⟩ (.int .i64 ((sy : Int) + (kk : Int)))).cell? ⟨wr.heap.size, 0, none⟩ = some (.string ((⟨B.toArray⟩ : ByteArray).extract 0 (sy + kk))) := cell_set (cell_new b0) (by decide)
            have w1 : ((wa.setCell ⟨wr.heap.size, 0, none⟩ (.string ((⟨B.toArray⟩ : ByteArray).extract 0 (sy + kk)))).setCell ⟨wr.heap.size, 1, none⟩ (.int .i64 ((sy : Int) + (kk : Int)))).cell? ⟨wr.heap.size, 1, none⟩ = some (.int .i64 ((sy : Int) + (kk : Int))) := cell_new (cell_set b1 (by decide))
            have w2 : ((wa.setCell ⟨wr.heap.size, 0, none⟩ (.string ((⟨B.toArray⟩ : ByteArray).extract 0 (sy + kk)))).setCell ⟨wr.heap.size, 1, none⟩ (.int .i64 ((sy : Int) + (kk : Int)))).cell? ⟨g, i * 2 + 1, none⟩ = some (.int .i64 (id : Int)) := (World.cell?_setCell_far _ _ _ _ (by first | exact hgx | exact hgx.symm | exact hg5x | exact hg5x.symm)).trans ((World.cell?_setCell_far _ _ _ _ (by first | exact hgx | exact hgx.symm | exact hg5x | exact hg5x.symm)).trans r1)
            have w3 : ((wa.setCell ⟨wr.heap.size, 0, none⟩ (.string ((⟨B.toArray⟩ : ByteArray).extract 0 (sy + kk)))).setCell ⟨wr.heap.size, 1, none⟩ (.int .i64 ((sy : Int) + (kk : Int)))).cell? ⟨g5, id * 2, none⟩ = some (.string ⟨B.toArray⟩) := (World.cell?_setCell_far _ _ _ _ (by first | exact hgx | exact hgx.symm | exact hg5x | exact hg5x.symm)).trans ((World.cell?_setCell_far _ _ _ _ (by first | exact hgx | exact hgx.symm | exact hg5x | exact hg5x.symm)).trans r2)
            have w4 : ((wa.setCell ⟨wr.heap.size, 0, none⟩ (.string ((⟨B.toArray⟩ : ByteArray).extract 0 (sy + kk)))).setCell ⟨wr.heap.size, 1, none⟩ (.int .i64 ((sy : Int) + (kk : Int)))).cell? ⟨g5, id * 2 + 1, none⟩ = some (.int .i64 (sy : Int)) := (World.cell?_setCell_far _ _ _ _ (by first | exact hgx | exact hgx.symm | exact hg5x | exact hg5x.symm)).trans ((World.cell?_setCell_far _ _ _ _ (by first | exact hgx | exact hgx.symm | exact hg5x | exact hg5x.symm)).trans r3)
            have wf3 : ((wa.setCell ⟨wr.heap.size, 0, none⟩ (.string ((⟨B.toArray⟩ : ByteArray).extract 0 (sy + kk)))).setCell ⟨wr.heap.size, 1, none⟩ (.int .i64 ((sy : Int) + (kk : Int)))).frozen? ⟨g5, id * 2, none⟩ = false := (World.frozen?_setCell _ _ _ _).trans ((World.frozen?_setCell _ _ _ _).trans rf2)
            have wf4 : ((wa.setCell ⟨wr.heap.size, 0, none⟩ (.string ((⟨B.toArray⟩ : ByteArray).extract 0 (sy + kk)))).setCell ⟨wr.heap.size, 1, none⟩ (.int .i64 ((sy : Int) + (kk : Int)))).frozen? ⟨g5, id * 2 + 1, none⟩ = false := (World.frozen?_setCell _ _ _ _).trans ((World.frozen?_setCell _ _ _ _).trans rf3)
            obtain ⟨wc, hwc⟩ : ∃ wc, ((wa.setCell ⟨wr.heap.size, 0, none⟩ (.string ((⟨B.toArray⟩ : ByteArray).extract 0 (sy + kk)))).setCell ⟨wr.heap.size, 1, none⟩ (.int .i64 ((sy : Int) + (kk : Int)))) = wc := ⟨_, rfl⟩
            have hbc : Below wr.heap.size wr wc := by
              rw [← hwc]
              exact (HBA.out.setCell (p := ⟨wr.heap.size, 0, none⟩) (Nat.le_refl _) _).setCell (p := ⟨wr.heap.size, 1, none⟩) (Nat.le_refl _) _
            rw [hwc] at w0 w1 w2 w3 w4 wf3 wf4
            have HBC := Lib.hid hbc
            have HRC := Lib.hid ((rowZ_below HROW.out hbc).set rfl (id * 2) (by have := HID.out; omega) (.string ((⟨B.toArray⟩ : ByteArray).extract 0 (sy + kk))))
            have HRD := Lib.hid (HRC.out.set rfl (id * 2 + 1) (by have := HID.out; omega) (.int .i64 ((sy : Int) + (kk : Int))))
            clear hbc
            have z2 : ((wc.setCell ⟨g5, id * 2, none⟩ (.string ((⟨B.toArray⟩ : ByteArray).extract 0 (sy + kk)))).setCell ⟨g5, id * 2 + 1, none⟩ (.int .i64 ((sy : Int) + (kk : Int)))).cell? ⟨g, i * 2 + 1, none⟩ = some (.int .i64 (id : Int)) := (World.cell?_setCell_far _ _ _ _ (by first | exact hgg | exact hgg.symm | exact hg5x | exact hg5x.symm)).trans ((World.cell?_setCell_far _ _ _ _ (by first | exact hgg | exact hgg.symm | exact hg5x | exact hg5x.symm)).trans w2)
            have z0 : ((wc.setCell ⟨g5, id * 2, none⟩ (.string ((⟨B.toArray⟩ : ByteArray).extract 0 (sy + kk)))).setCell ⟨g5, id * 2 + 1, none⟩ (.int .i64 ((sy : Int) + (kk : Int)))).cell? ⟨wr.heap.size, 0, none⟩ = some (.string ((⟨B.toArray⟩ : ByteArray).extract 0 (sy + kk))) := (World.cell?_setCell_far _ _ _ _ (by first | exact hgg | exact hgg.symm | exact hg5x | exact hg5x.symm)).trans ((World.cell?_setCell_far _ _ _ _ (by first | exact hgg | exact hgg.symm | exact hg5x | exact hg5x.symm)).trans w0)
            have z1 : ((wc.setCell ⟨g5, id * 2, none⟩ (.string ((⟨B.toArray⟩ : ByteArray).extract 0 (sy + kk)))).setCell ⟨g5, id * 2 + 1, none⟩ (.int .i64 ((sy : Int) + (kk : Int)))).cell? ⟨wr.heap.size, 1, none⟩ = some (.int .i64 ((sy : Int) + (kk : Int))) := (World.cell?_setCell_far _ _ _ _ (by first | exact hgg | exact hgg.symm | exact hg5x | exact hg5x.symm)).trans ((World.cell?_setCell_far _ _ _ _ (by first | exact hgg | exact hgg.symm | exact hg5x | exact hg5x.symm)).trans w1)
            have HRF := HRD.out
            rw [show ((cellsF F).set (id * 2) (.string ((⟨B.toArray⟩ : ByteArray).extract 0 (sy + kk)))).set (id * 2 + 1) (.int .i64 ((sy : Int) + (kk : Int))) = cellsF (F.set id ⟨B.take (sy + kk), (sy + kk)⟩) from by rw [extractZ]; exact cellsF_set2 F id hidF (B.take (sy + kk)) (sy + kk)] at HRF
            have HRG := Lib.hid HRF
            clear HRF
            go_wp2_with fail
            clear hwc b0 b1 bf0 bf1 r1 r2 r3 rf2 rf3
            
            go_region_held3 (fun w' => w'.cell? ⟨g, i * 2 + 1, none⟩ = some (.int .i64 (id : Int)) ∧ w'.cell? ⟨wr.heap.size, 0, none⟩ = some (.string ((⟨B.toArray⟩ : ByteArray).extract 0 (sy + kk))) ∧ w'.cell? ⟨wr.heap.size, 1, none⟩ = some (.int .i64 ((sy : Int) + (kk : Int)))) (first | exact ⟨w2, w0, w1⟩ | go_keep | exact ⟨z2, z0, z1⟩) (fail)
            all_goals go_wp2
            all_goals
              refine ⟨⟨i + 1, F.set id ⟨B.take (sy + kk), (sy + kk)⟩, by go_num, hlt, ?_, by rw [List.length_set]; exact hFl, HKK2.out.symm.trans HCUT.out, HFO2.out.set id (by show (sy + kk) ≤ (B.take (sy + kk)).length; rw [List.length_take]; omega), fun f hf => ?_, ?_⟩, by simp [intOf]; omega⟩
              · first | exact HRG.out | exact rowZ_below HRG.out (Below.refl _ _).drew
              · rcases List.mem_or_eq_of_mem_set hf with h1 | h1
                · exact HBY2.out f h1
                · rw [h1]
                  show (B.take (sy + kk)).length ≤ m
                  rw [List.length_take]
                  omega
              · have hb := ((HBX.out.trans (HBC.out.mono HBX.out.size)).setCell (p := ⟨g5, id * 2, none⟩) hgt5 (.string ((⟨B.toArray⟩ : ByteArray).extract 0 (sy + kk)))).setCell (p := ⟨g5, id * 2 + 1, none⟩) hgt5 (.int .i64 ((sy : Int) + (kk : Int)))
                first | exact hb | exact hb.drew
          · have dik : decide ((i : Int) < (ks.length : Int)) = false := decide_eq_false (by omega)
            have hk0 : kk = 0 := by rw [hkk, headD_drop, dif_neg hik]; unfold modn; simp
            subst hk0
            clear hkk hba hblk
            clear pf0 pf1
            have w0 : ((wa.setCell ⟨wr.heap.size, 0, none⟩ (.string ((⟨B.toArray⟩ : ByteArray).extract 0 sy))).setCell ⟨wr.heap.size, 1, none⟩ (.int .i64 (sy : Int))).cell? ⟨wr.heap.size, 0, none⟩ = some (.string ((⟨B.toArray⟩ : ByteArray).extract 0 sy)) := cell_set (cell_new b0) (by decide)
            have w1 : ((wa.setCell ⟨wr.heap.size, 0, none⟩ (.string ((⟨B.toArray⟩ : ByteArray).extract 0 sy))).setCell ⟨wr.heap.size, 1, none⟩ (.int .i64 (sy : Int))).cell? ⟨wr.heap.size, 1, none⟩ = some (.int .i64 (sy : Int)) := cell_new (cell_set b1 (by decide))
            have w2 : ((wa.setCell ⟨wr.heap.size, 0, none⟩ (.string ((⟨B.toArray⟩ : ByteArray).extract 0 sy))).setCell ⟨wr.heap.size, 1, none⟩ (.int .i64 (sy : Int))).cell? ⟨g, i * 2 + 1, none⟩ = some (.int .i64 (id : Int)) := (World.cell?_setCell_far _ _ _ _ (by first | exact hgx | exact hgx.symm | exact hg5x | exact hg5x.symm)).trans ((World.cell?_setCell_far _ _ _ _ (by first | exact hgx | exact hgx.symm | exact hg5x | exact hg5x.symm)).trans r1)
            have w3 : ((wa.setCell ⟨wr.heap.size, 0, none⟩ (.string ((⟨B.toArray⟩ : ByteArray).extract 0 sy))).setCell ⟨wr.heap.size, 1, none⟩ (.int .i64 (sy : Int))).cell? ⟨g5, id * 2, none⟩ = some (.string ⟨B.toArray⟩) := (World.cell?_setCell_far _ _ _ _ (by first | exact hgx | exact hgx.symm | exact hg5x | exact hg5x.symm)).trans ((World.cell?_setCell_far _ _ _ _ (by first | exact hgx | exact hgx.symm | exact hg5x | exact hg5x.symm)).trans r2)
            have w4 : ((wa.setCell ⟨wr.heap.size, 0, none⟩ (.string ((⟨B.toArray⟩ : ByteArray).extract 0 sy))).setCell ⟨wr.heap.size, 1, none⟩ (.int .i64 (sy : Int))).cell? ⟨g5, id * 2 + 1, none⟩ = some (.int .i64 (sy : Int)) := (World.cell?_setCell_far _ _ _ _ (by first | exact hgx | exact hgx.symm | exact hg5x | exact hg5x.symm)).trans ((World.cell?_setCell_far _ _ _ _ (by first | exact hgx | exact hgx.symm | exact hg5x | exact hg5x.symm)).trans r3)
            have wf3 : ((wa.setCell ⟨wr.heap.size, 0, none⟩ (.string ((⟨B.toArray⟩ : ByteArray).extract 0 sy))).setCell ⟨wr.heap.size, 1, none⟩ (.int .i64 (sy : Int))).frozen? ⟨g5, id * 2, none⟩ = false := (World.frozen?_setCell _ _ _ _).trans ((World.frozen?_setCell _ _ _ _).trans rf2)
            have wf4 : ((wa.setCell ⟨wr.heap.size, 0, none⟩ (.string ((⟨B.toArray⟩ : ByteArray).extract 0 sy))).setCell ⟨wr.heap.size, 1, none⟩ (.int .i64 (sy : Int))).frozen? ⟨g5, id * 2 + 1, none⟩ = false := (World.frozen?_setCell _ _ _ _).trans ((World.frozen?_setCell _ _ _ _).trans rf3)
            obtain ⟨wc, hwc⟩ : ∃ wc, ((wa.setCell ⟨wr.heap.size, 0, none⟩ (.string ((⟨B.toArray⟩ : ByteArray).extract 0 sy))).setCell ⟨wr.heap.size, 1, none⟩ (.int .i64 (sy : Int))) = wc := ⟨_, rfl⟩
            have hbc : Below wr.heap.size wr wc := by
              rw [← hwc]
              exact (HBA.out.setCell (p := ⟨wr.heap.size, 0, none⟩) (Nat.le_refl _) _).setCell (p := ⟨wr.heap.size, 1, none⟩) (Nat.le_refl _) _
            rw [hwc] at w0 w1 w2 w3 w4 wf3 wf4
            have HBC := Lib.hid hbc
            have HRC := Lib.hid ((rowZ_below HROW.out hbc).set rfl (id * 2) (by have := HID.out; omega) (.string ((⟨B.toArray⟩ : ByteArray).extract 0 sy)))
            have HRD := Lib.hid (HRC.out.set rfl (id * 2 + 1) (by have := HID.out; omega) (.int .i64 (sy : Int)))
            clear hbc
            have z2 : ((wc.setCell ⟨g5, id * 2, none⟩ (.string ((⟨B.toArray⟩ : ByteArray).extract 0 sy))).setCell ⟨g5, id * 2 + 1, none⟩ (.int .i64 (sy : Int))).cell? ⟨g, i * 2 + 1, none⟩ = some (.int .i64 (id : Int)) := (World.cell?_setCell_far _ _ _ _ (by first | exact hgg | exact hgg.symm | exact hg5x | exact hg5x.symm)).trans ((World.cell?_setCell_far _ _ _ _ (by first | exact hgg | exact hgg.symm | exact hg5x | exact hg5x.symm)).trans w2)
            have z0 : ((wc.setCell ⟨g5, id * 2, none⟩ (.string ((⟨B.toArray⟩ : ByteArray).extract 0 sy))).setCell ⟨g5, id * 2 + 1, none⟩ (.int .i64 (sy : Int))).cell? ⟨wr.heap.size, 0, none⟩ = some (.string ((⟨B.toArray⟩ : ByteArray).extract 0 sy)) := (World.cell?_setCell_far _ _ _ _ (by first | exact hgg | exact hgg.symm | exact hg5x | exact hg5x.symm)).trans ((World.cell?_setCell_far _ _ _ _ (by first | exact hgg | exact hgg.symm | exact hg5x | exact hg5x.symm)).trans w0)
            have z1 : ((wc.setCell ⟨g5, id * 2, none⟩ (.string ((⟨B.toArray⟩ : ByteArray).extract 0 sy))).setCell ⟨g5, id * 2 + 1, none⟩ (.int .i64 (sy : Int))).cell? ⟨wr.heap.size, 1, none⟩ = some (.int .i64 (sy : Int)) := (World.cell?_setCell_far _ _ _ _ (by first | exact hgg | exact hgg.symm | exact hg5x | exact hg5x.symm)).trans ((World.cell?_setCell_far _ _ _ _ (by first | exact hgg | exact hgg.symm | exact hg5x | exact hg5x.symm)).trans w1)
            have HRF := HRD.out
            rw [show ((cellsF F).set (id * 2) (.string ((⟨B.toArray⟩ : ByteArray).extract 0 sy))).set (id * 2 + 1) (.int .i64 (sy : Int)) = cellsF (F.set id ⟨B.take sy, sy⟩) from by rw [extractZ]; exact cellsF_set2 F id hidF (B.take sy) sy] at HRF
            have HRG := Lib.hid HRF
            clear HRF
            go_wp2_with fail
            clear hwc b0 b1 bf0 bf1 r1 r2 r3 rf2 rf3
            
            go_region_held3 (fun w' => w'.cell? ⟨g, i * 2 + 1, none⟩ = some (.int .i64 (id : Int)) ∧ w'.cell? ⟨wr.heap.size, 0, none⟩ = some (.string ((⟨B.toArray⟩ : ByteArray).extract 0 sy)) ∧ w'.cell? ⟨wr.heap.size, 1, none⟩ = some (.int .i64 (sy : Int))) (first | exact ⟨w2, w0, w1⟩ | go_keep | exact ⟨z2, z0, z1⟩) (fail)
            all_goals go_wp2
            all_goals
              refine ⟨⟨i + 1, F.set id ⟨B.take sy, sy⟩, by go_num, hlt, ?_, by rw [List.length_set]; exact hFl, HKK2.out.symm.trans HCUT.out, HFO2.out.set id (by show sy ≤ (B.take sy).length; rw [List.length_take]; omega), fun f hf => ?_, ?_⟩, by simp [intOf]; omega⟩
              · first | exact HRG.out | exact rowZ_below HRG.out (Below.refl _ _).drew
              · rcases List.mem_or_eq_of_mem_set hf with h1 | h1
                · exact HBY2.out f h1
                · rw [h1]
                  show (B.take sy).length ≤ m
                  rw [List.length_take]
                  omega
              · have hb := ((HBX.out.trans (HBC.out.mono HBX.out.size)).setCell (p := ⟨g5, id * 2, none⟩) hgt5 (.string ((⟨B.toArray⟩ : ByteArray).extract 0 sy))).setCell (p := ⟨g5, id * 2 + 1, none⟩) hgt5 (.int .i64 (sy : Int))
                first | exact hb | exact hb.drew
        · have hii : i = D.length := by omega
          have dii : decide ((i : Int) < (D.length : Int)) = false := decide_eq_false (by omega)
          have hFin : F = cuts s.files D ks := by
            rw [← hcut, hii, List.drop_of_length_le (Nat.le_refl _)]
            rfl
          have hbw : Below W1.heap.size W1 wr := HBL.out.trans (HBX.out.mono HBL.out.size)
          have hrx := HR1.out wr hbw
          have e5 := hrx.cell 5 x.s rfl
          have e6 := hrx.cell 6 x.d rfl
          have e7 := hrx.cell 7 x.p rfl
          have e8 := hrx.cell 8 x.f rfl
          have f5 := hrx.warm 5
          have f6 := hrx.warm 6
          have f7 := hrx.warm 7
          have f8 := hrx.warm 8
          have hfz : Row wr 96 2 v5 F.length (cellsF F) := by rw [hFl]; exact hrow
          have hfin := hrx.put58 (HV.out.below hbx) hfz
          have htt : Turn [q] w wr := HT1.out.trans (turnZ [q] hbw) (by simp)
          obtain ⟨a5, c5', hv5e, -, -⟩ := hrow.le
          subst hv5e
          have HFI := Lib.hid hfin
          have HTT := Lib.hid htt
          have HFE := Lib.hid hFin
          clear hrow hcut hfo hby hbx hbw hrx hfz hfin htt hFin hii
          go_wp2
          go_end0
          rw [HCR.out, ← HFE.out]
          refine ⟨rfl, _, HFI.out, (((HTT.out.setCell (.inl (by simp)) _).setCell (.inl (by simp)) _).setCell (.inl (by simp)) _).setCell (.inl (by simp)) _, fun b hb => ?_⟩
          simp only [RefV.foot, List.mem_append, Option.mem_toList] at hb
          have hV : ∀ b, ob (.slice av D.length capv) = some b → b ∈ x.foot ∨ w.heap.size ≤ b := fun b hb => by
            rcases HOB.out b hb with h1 | h1
            · exact .inl (by simp [RefV.foot, h1])
            · exact .inr h1
          rcases hb with ((hb | hb) | hb) | hb
          · exact hV b hb
          · exact hV b hb
          · cases hb
          · exact .inr (by have h1 := HV5.out b hb; have h2 := HBL.out.size; omega)
end
end Go.Proofs.YtfndlfnlepndmaaGreat
