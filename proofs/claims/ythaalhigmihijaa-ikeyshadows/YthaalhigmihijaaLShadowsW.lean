/- The walk of IkeyShadows, where slices.Sort sorts up to 30 numbers. -/
import Derived.Test.YthaalhigmihijaaET
namespace Go.Proofs.Ythaalhigmihijaa
open Go.RowKit Go.Lib

theorem infoU6 : (Try.prog.info? 24).map (fun i => (i.zero, i.size, i.bytes)) = some (some (.int .u64 0), 1, 8) := by kernel_rfl
theorem drcS {X : World} {a : Addr} {v : Option Value} (h : X.cell? a = v) : X.drew.cell? a = v := h
theorem sob {w : World} {b B i j : Nat} {u v : Value} (h : w.cell? ⟨b, j, none⟩ = some v) (hne : b ≠ B) : (w.setCell ⟨B, i, none⟩ u).cell? ⟨b, j, none⟩ = some v :=
  (World.cell?_setCell_other w _ _ u (fun e => hne (by cases e; rfl))).trans h
set_option maxHeartbeats 8000000 in
set_option maxRecDepth 100000 in
theorem shadows_hard (hS : SortsU 30) (a : Option Addr) (len cap : Nat) (es : List Ent) (pa : Option Addr) (plen pcap : Nat) (zs : List Int) (key : ByteArray) (more : Int) (w : World)
    (hE : EntsAt w.heap.size w a len es) (hok : ∀ x ∈ es, x.Ok) (hlm : len ≤ 9223372036854775807) (hP : NumsAt w.heap.size w pa plen zs) (hpm : plen ≤ 9223372036854775807) (hkey : key.size ≤ 9223372036854775807) :
    Calls Try.prog 3 #[.slice a len cap, .slice pa plen pcap, .string key, .int .u64 more] w fun e w' => e = .returned (.bool true) ∧ Below w.heap.size w w' := by
  have hel := hE.1
  have hzl := hP.1
  have CS := Lib.hid (small_any a len cap es hE hlm hok)
  have HE := Lib.hid hE
  have HP := Lib.hid hP
  have HOK := Lib.hid hok
  clear hE hP hok
  obtain ⟨i0, hi, hz0, hzs, hzb⟩ := info_parts infoU6
  go_enter Try.func3, Try.ntmps3
  go_wp2_with (fail)
  go_at_call 7
  refine CS.out.mono ?_
  rintro e W1 ⟨t1, rfl, ht1, b1⟩
  cases t1
  · go_wp2_with (first | (go_at_call 9; (with_reducible refine (alive5_any _).mono ?_); rintro e WA ⟨rfl, bA⟩) | fail)
    go_ret
    exact ⟨rfl, b1.trans (bA.mono b1.size)⟩
  obtain ⟨hl150, hshort⟩ := ht1 (by first | rfl | trivial)
  clear ht1
  have hE1 : EntsAt W1.heap.size W1 a len es := (HE.out.below b1).mono b1.size
  go_wp2_with (fail)
  go_at_call 8
  refine (ordered_any a len cap es hE1 (by omega) HOK.out).mono ?_
  rintro e W2 ⟨t2, rfl, ht2, b2'⟩
  have b2 : Below w.heap.size w W2 := b1.trans (b2'.mono b1.size)
  clear hE1
  cases t2
  · go_wp2_with (first | (go_at_call 9; (with_reducible refine (alive5_any _).mono ?_); rintro e WA ⟨rfl, bA⟩) | fail)
    go_ret
    exact ⟨rfl, b2.trans (bA.mono b2.size)⟩
  have hord := ht2 (by first | rfl | trivial)
  clear ht2
  by_cases h30 : 30 < plen
  · have d1 : decide (30 < (plen : Int)) = true := by simp; omega
    go_wp2_with (first | (go_at_call 9; (with_reducible refine (alive5_any _).mono ?_); rintro e WA ⟨rfl, bA⟩) | fail)
    go_ret
    exact ⟨rfl, b2.trans (bA.mono b2.size)⟩
  have d1 : decide (30 < (plen : Int)) = false := by simp; omega
  by_cases h300 : 300 < key.size
  · have d2 : decide (300 < (key.size : Int)) = true := by simp; omega
    go_wp2_with (first | (go_at_call 9; (with_reducible refine (alive5_any _).mono ?_); rintro e WA ⟨rfl, bA⟩) | fail)
    go_ret
    exact ⟨rfl, b2.trans (bA.mono b2.size)⟩
  have d2 : decide (300 < (key.size : Int)) = false := by simp; omega
  have hsm : ∀ x ∈ es, x.Small := fun x hx => by
    have := hshort x hx
    unfold Ent.Short at this
    unfold Ent.Small
    omega
  have HSM := Lib.hid hsm
  have HOR := Lib.hid hord
  have hE2 : EntsAt W2.heap.size W2 a len es := (HE.out.below b2).mono b2.size
  have hP2 : NumsAt W2.heap.size W2 pa plen zs := by
    refine ⟨hzl, ?_⟩
    rcases (HP.out.below b2).2 with h0 | ⟨b, off, e, hlt, hc⟩
    · exact .inl h0
    · exact .inr ⟨b, off, e, Nat.lt_of_lt_of_le hlt b2.size, hc⟩
  have CSH := Lib.hid (shadow_any 30 hS a len cap es pa plen pcap zs W2 hE2 hP2 (by omega) (by omega) (by omega) hsm)
  have HE2 := Lib.hid (fun W (h : Below W2.heap.size W2 W) => (hE2.below h).mono h.size)
  have HP2 := Lib.hid (fun W (h : Below W2.heap.size W2 W) => hP2.below h)
  clear hE2 hP2 hsm hord hshort
  go_wp2_with (first | (go_at_call 10; (with_reducible refine CSH.out.mono ?_); rintro e W3 ⟨v, rfl, r3, o3, b3⟩; obtain ⟨am, cm, rfl, hm3⟩ := row_ents r3) | fail)
  have hnl : (shad es zs len).length ≤ len := shad_le es zs len
  have HM3 := Lib.hid hm3
  clear hm3 r3
  generalize hms : shad es zs len = ms at *
  go_loopw [10, 11] (fun tv iv wr => ∃ (i : Nat) (T : Int), tv = .int .u64 T ∧ iv = .int .i64 (i : Int) ∧ i ≤ len ∧ (∀ j, j < i → (es.getD j default).s ≤ T) ∧ Below W3.heap.size W3 wr) (fun _ iv _ => len - (RowKit.intOf iv).toNat)
  case atStart => exact ⟨0, more, rfl, rfl, Nat.zero_le _, fun j hj => by omega, Below.refl _ _⟩
  case round =>
    obtain ⟨i, T, rfl, rfl, hil0, htop, hbl⟩ := hrel
    have HT := Lib.hid htop
    clear htop
    have bw : Below W2.heap.size W2 wr := b3.trans (hbl.mono b3.size)
    by_cases hlt : i < len
    · obtain ⟨b, off, rfl, q1⟩ : ∃ b off, a = some ⟨b, off, none⟩ ∧ wr.cell? ⟨b, off + i * 4 + 1, none⟩ = some (.int .u64 (es.getD i default).s) := by
        rcases (HE2.out wr bw).2 with h0 | ⟨b, off, e, h1, h2⟩
        · omega
        · have hie : i < es.length := by omega
          have := h2 i hie 1 _ rfl
          rw [List.getD_eq_getElem?_getD, List.getElem?_eq_getElem hie]
          exact ⟨b, off, e, this⟩
      have hil : (i : Int) < (len : Int) := by omega
      have HN := Lib.hid (show ∀ T', T ≤ T' → (es.getD i default).s ≤ T' → ∀ j, j < i + 1 → (es.getD j default).s ≤ T' from fun T' h1 h2 j hj => by
        by_cases hj2 : j < i
        · have := HT.out j hj2
          omega
        · obtain rfl : j = i := by omega
          exact h2)
      generalize (es.getD i default).s = SQ at *
      go_wp2
      go_roundw
      case rel => exact ⟨i + 1, max T SQ, rfl, by go_num, by omega, HN.out _ (Int.le_max_left _ _) (Int.le_max_right _ _), hbl⟩
      case measure => simp [RowKit.intOf]; omega
    · obtain rfl : i = len := by omega
      have HSP := Lib.hid (src_nums (cap := pcap) (HP2.out wr bw))
      have HB1 := Lib.hid (show 0 + plen ≤ maxLen by unfold maxLen; omega)
      have HB2 := Lib.hid (show (0 + plen) * 8 ≤ 140737488355328 by omega)
      have HB3 := Lib.hid (show 0 + plen + 1 ≤ maxLen by unfold maxLen; omega)
      have HB4 := Lib.hid (show (0 + plen + 1) * 8 ≤ 140737488355328 by omega)
      have HS2 := Lib.hid (show ∀ w3 : World, Src Try.prog 1 23 (.slice (some ⟨w3.heap.size, 0, none⟩) 1 1) 1 [.int .u64 T] (w3.alloc (.cells #[.int .u64 T] 24)) from fun w3 => Src.ofSlice (P := Try.prog) _ (size := 1) Try.underlying23 ⟨w3.heap.size, 0, none⟩ 1 1 _ rfl (fun j u hu => by
        match j, hu with
        | 0, hu => simpa [Addr.add] using hu) (by simp [Value.oneCell']))
      go_wp2_with (first
        | (at_builtin; refine wpList_append_row _ rfl _ _ 23 23 rfl 24 i0 _ 1 8 Try.underlying23 hi hz0 hzs hzb rfl (.slice none 0 0) 0 [] rfl (row_nil _ _ _) _ rfl plen _ HSP.out HB1.out HB2.out ?_; intro v4 w4 r4 g4 o4)
        | (at_builtin; refine wpList_append_row _ rfl _ _ 23 23 rfl 24 i0 _ 1 8 Try.underlying23 hi hz0 hzs hzb rfl v4 (0 + plen) _ rfl (r4.kept fun k hk => Below.heap_alloc w4 _ k (r4.lt k hk)) _ rfl 1 _ (HS2.out _) HB3.out HB4.out ?_; intro v5 W5 r5 g5 o5)
        | fail)
      have b4 : Below wr.heap.size wr w4 := (turn_of_grown (F := []) g4 (fun k hk => by simp [ob] at hk)).below (Nat.le_refl _) (by simp)
      have b4' : Below wr.heap.size wr (w4.alloc (.cells #[.int .u64 T] 24)) := b4.alloc b4.size _
      have b5 : Below wr.heap.size wr W5 := b4'.trans ((turn_of_grown (F := (ob v4).toList) g5 (fun k hk => .inl (by simp [hk]))).below b4'.size (fun k hk => by
        simp at hk
        rcases o4 with e | ⟨e, -⟩
        · rw [e] at hk; simp [ob] at hk
        · rw [e] at hk; cases hk; exact Nat.le_refl _))
      have r5' : Row W5 24 1 v5 (zs ++ [T]).length ((zs ++ [T]).map (Value.int .u64)) := by
        rw [List.length_append, hzl, List.map_append]
        simpa using r5
      obtain ⟨aa, ca, rfl, hn5⟩ := row_nums r5'
      have b25 : Below W2.heap.size W2 W5 := bw.trans (b5.mono bw.size)
      have b35 : Below W3.heap.size W3 W5 := hbl.trans (b5.mono hbl.size)
      have hal : (zs ++ [T]).length = plen + 1 := by simp [hzl]
      generalize hall : zs ++ [T] = all at *
      have hal31 : all.length ≤ 31 := by omega
      clear hal
      have HN5 := Lib.hid hn5
      have b05 : Below w.heap.size w W5 := b2.trans (b25.mono b2.size)
      have HE5 := Lib.hid (fun W (h : Below W5.heap.size W5 W) => HE2.out W (b25.trans (h.mono b25.size)))
      have HM5 := Lib.hid (fun W (h : Below W5.heap.size W5 W) => (HM3.out.below (b35.trans (h.mono b35.size))).mono (b35.trans (h.mono b35.size)).size)
      have HSM2 := Lib.hid (show ∀ x ∈ ms, x.Small from fun x hx => HSM.out x (by rw [← hms, ← hel] at hx; exact shad_mem x hx))
      have HQ := Lib.hid (show ∀ q ∈ all, q ∈ zs ∨ ∀ j, j < es.length → (es.getD j default).s ≤ q from fun q hq => by
        rw [← hall] at hq
        rcases List.mem_append.1 hq with hq | hq
        · exact .inl hq
        · simp at hq
          subst hq
          exact .inr (fun j hj => HT.out j (by omega)))
      have HSAME := Lib.hid (show ∀ q ∈ all, pickV ms (best ms key q ms.length) = pickV es (best es key q i) ∧ decide (0 ≤ best ms key q ms.length) = decide (0 ≤ best es key q i) from fun q hq => by
        have := pick_same (zs := zs) HOR.out key (HQ.out q hq)
        rw [hel, hms] at this
        exact this)
      clear hn5 r5 r5' r4 o4 o5 g4 g5
      go_loopw [13] (fun iv wr => ∃ j : Nat, iv = .int .i64 (j : Int) ∧ j ≤ all.length ∧ Below W5.heap.size W5 wr) (fun iv _ => all.length - (RowKit.intOf iv).toNat)
      case atStart => exact ⟨0, rfl, Nat.zero_le _, Below.refl _ _⟩
      case round =>
        obtain ⟨j, rfl, hjl, hbj⟩ := hrel
        by_cases hlt : j < all.length
        · obtain ⟨b, off, rfl, hbW, q0⟩ : ∃ b off, aa = some ⟨b, off, none⟩ ∧ b < W5.heap.size ∧ wr.cell? ⟨b, off + j, none⟩ = some (.int .u64 (all[j])) := by
            rcases (HN5.out.below hbj).2 with h0 | ⟨b, off, e, h1, h2⟩
            · omega
            · exact ⟨b, off, e, h1, h2 j hlt⟩
          obtain ⟨s1, s2⟩ := HSAME.out all[j] (List.getElem_mem _)
          have c1 := fun W (h : Below W5.heap.size W5 W) => pick_any a i cap es key all[j] W (HE5.out W h) (by omega) HSM.out
          have c2 := fun W (h : Below W5.heap.size W5 W) => pick_any am ms.length cm ms key all[j] W (HM5.out W h) (by omega) HSM2.out
          rw [s1, s2] at c2
          obtain ⟨x, hx⟩ := pickV_form es (best es key all[j] i)
          rw [hx] at c1 c2
          generalize decide (0 ≤ best es key all[j] i) = tt at *
          have q0a : ∀ W, Below wr.heap.size wr W → W.cell? ⟨b, off + j, none⟩ = some (.int .u64 all[j]) := fun W h => (h.cell (World.block_lt_of_cell? wr _ q0)).trans q0
          have Q0 := Lib.hid q0a
          generalize all[j] = q at *
          have C1 := Lib.hid c1
          have C2 := Lib.hid c2
          obtain ⟨K, SQ, NN, V⟩ := x
          dsimp only at C1 C2
          clear c1 c2 s1 s2 hx q0a
          have hjal : (j : Int) < (all.length : Int) := by omega
          have HJ := Lib.hid (show ∀ W o, Below wr.heap.size wr W → Below wr.heap.size wr (W.alloc o) from fun W o h => h.alloc h.size o)
          have HJ5 := Lib.hid (show ∀ W, Below wr.heap.size wr W → Below W5.heap.size W5 W from fun W h => hbj.trans (h.mono hbj.size))
          go_wp2_with (first
            | (go_at_call 11; (with_reducible refine (C1.out _ hbj).mono ?_); rintro e Wa ⟨rfl, ba⟩; have q1 := Q0.out _ ba; have q2 := fun o => Q0.out _ (HJ.out Wa o ba); have ba2 := fun o => HJ5.out _ (HJ.out Wa o ba))
            | (go_at_call 11; (with_reducible refine (C2.out _ (ba2 _)).mono ?_); rintro e Wb ⟨rfl, bb⟩; have xb : Boxe Wa.heap.size K SQ NN V Wb := Boxe.below (new_block Wa _ rfl) bb; have xl := xb.lt; have y0 := fun o => oce (o := o) xl xb.c0; have y1 := fun o => oce (o := o) xl xb.c1; have y2 := fun o => oce (o := o) xl xb.c2; have y3 := fun o => oce (o := o) xl xb.c3)
            | fail)
          go_roundw
          case rel => exact ⟨j + 1, by go_num, by omega, (HJ5.out _ (HJ.out _ _ (ba.trans (((Below.refl _ _).alloc (Nat.le_refl _) _ |>.trans (bb.mono (by simp))).mono ba.size))))⟩
          case measure => simp [RowKit.intOf]; omega
        · obtain rfl : j = all.length := by omega
          go_wp2_with (fail)
          go_loopw [18] (fun iv wr => ∃ p : Nat, iv = .int .i64 (p : Int) ∧ p ≤ ms.length ∧ Below W5.heap.size W5 wr) (fun iv _ => ms.length - (RowKit.intOf iv).toNat)
          case atStart => exact ⟨0, rfl, Nat.zero_le _, hbj⟩
          case round =>
            obtain ⟨p, rfl, hpl, hbp⟩ := hrel
            by_cases hplt : p < ms.length
            · obtain ⟨M, hM⟩ : ∃ M, ms[p] = M := ⟨_, rfl⟩
              have hgood : ∃ q ∈ all, pickV es (best es M.k q i) = M.val ∧ 0 ≤ best es M.k q i := by
                have hp' : p < (shad es zs es.length).length := by rw [hel, hms]; exact hplt
                obtain ⟨q, hq, h1, h2⟩ := left_seen (zs := zs) HOR.out (top := T) (fun j hj => HT.out j (by omega)) hp'
                rw [hel, hms] at h1 h2
                have hg : ms.getD p default = M := by rw [List.getD_eq_getElem?_getD, List.getElem?_eq_getElem hplt, hM]; rfl
                rw [hg] at h1 h2
                refine ⟨q, ?_, h1, h2⟩
                rw [← hall]
                rcases hq with hq | hq
                · exact List.mem_append_left _ hq
                · rw [hq]; simp
              have HGOOD := Lib.hid hgood
              have hmc : ∀ W, Below W5.heap.size W5 W → ∃ b off, am = some ⟨b, off, none⟩ ∧ ∀ j u, M.cells[j]? = some u → W.cell? ⟨b, off + p * 4 + j, none⟩ = some u := by
                intro W hW
                rcases (HM5.out W hW).2 with h0 | ⟨b, off, e, h1, h2⟩
                · omega
                · have := h2 p hplt
                  rw [hM] at this
                  exact ⟨b, off, e, this⟩
              obtain ⟨mb, moff, rfl, -⟩ := hmc _ (Below.refl _ _)
              have HMC := Lib.hid (show ∀ W, Below W5.heap.size W5 W → ∀ j u, M.cells[j]? = some u → W.cell? ⟨mb, moff + p * 4 + j, none⟩ = some u from fun W hW => by
                obtain ⟨b, off, e, h⟩ := hmc W hW
                cases e
                exact h)
              obtain ⟨MK, MS, MN, MV⟩ := M
              have hpil : (p : Int) < (ms.length : Int) := by omega
              clear hgood hmc hM
              go_wp2
              go_loopw [19, 20] (fun sv kv wr => ∃ (k : Nat) (t : Bool), sv = .bool t ∧ kv = .int .i64 (k : Int) ∧ k ≤ all.length ∧ (t = true ∨ ∀ j (h : j < all.length), j < k → ¬ (pickV es (best es MK all[j] i) = (⟨MK, MS, MN, MV⟩ : Ent).val ∧ 0 ≤ best es MK all[j] i)) ∧ Below W5.heap.size W5 wr) (fun _ kv _ => all.length - (RowKit.intOf kv).toNat)
              case atStart => exact ⟨0, false, rfl, rfl, Nat.zero_le _, .inr (fun j _ h => by omega), hbp⟩
              case round =>
                obtain ⟨k, t, rfl, rfl, hkl, hgd, hbk⟩ := hrel
                have HGD := Lib.hid hgd
                clear hgd
                by_cases hklt : k < all.length
                · obtain ⟨b, off, rfl, hbW, q0⟩ : ∃ b off, aa = some ⟨b, off, none⟩ ∧ b < W5.heap.size ∧ wr.cell? ⟨b, off + k, none⟩ = some (.int .u64 (all[k])) := by
                    rcases (HN5.out.below hbk).2 with h0 | ⟨b, off, e, h1, h2⟩
                    · omega
                    · exact ⟨b, off, e, h1, h2 k hklt⟩
                  have p0 : wr.cell? ⟨mb, moff + p * 4, none⟩ = some (.string MK) := HMC.out wr hbk 0 _ rfl
                  have hkk : (k : Int) < (all.length : Int) := by omega
                  have c1 := fun W (h : Below W5.heap.size W5 W) => pick_any a i cap es MK all[k] W (HE5.out W h) (by omega) HSM.out
                  obtain ⟨x, hx⟩ := pickV_form es (best es MK all[k] i)
                  rw [hx] at c1
                  have HNX := Lib.hid (show ∀ t' : Bool, (t = true → t' = true) → ((pickV es (best es MK all[k] i) = (⟨MK, MS, MN, MV⟩ : Ent).val ∧ 0 ≤ best es MK all[k] i) → t' = true) → (t' = true ∨ ∀ j (h : j < all.length), j < k + 1 → ¬ (pickV es (best es MK all[j] i) = (⟨MK, MS, MN, MV⟩ : Ent).val ∧ 0 ≤ best es MK all[j] i)) from fun t' h1 h2 => by
                    cases t' with
                    | true => exact .inl rfl
                    | false =>
                      refine .inr (fun j hj hjk hgood => ?_)
                      by_cases hj2 : j < k
                      · rcases HGD.out with h3 | h3
                        · cases h1 h3
                        · exact h3 j hj hj2 hgood
                      · obtain rfl : j = k := by omega
                        cases h2 hgood)
                  rw [hx] at HNX
                  obtain ⟨tt, htt⟩ : ∃ tt, decide (0 ≤ best es MK all[k] i) = tt := ⟨_, rfl⟩
                  rw [htt] at c1
                  have HTT := Lib.hid htt
                  obtain ⟨K, SQ, NN, V⟩ := x
                  have C1 := Lib.hid c1
                  dsimp only at C1 HNX
                  clear c1 htt hx
                  generalize all[k] = q at *
                  generalize best es MK q i = BE at *
                  go_wp2
                  have l0 : mb < wr.heap.size := World.block_lt_of_cell? wr _ p0
                  have l1 : b < wr.heap.size := World.block_lt_of_cell? wr _ q0
                  have n0 : mb ≠ wr.heap.size := by omega
                  have n1 : b ≠ wr.heap.size := by omega
                  go_region_held3 (fun w' => w'.cell? ⟨mb, moff + p * 4, none⟩ = some (.string MK) ∧ w'.cell? ⟨b, off + k, none⟩ = some (.int .u64 q)) (first | assumption | (refine ⟨?_, ?_⟩ <;> (repeat (first | with_reducible exact p0 | with_reducible exact q0 | with_reducible refine drcS ?_ | with_reducible exact kk _ _ p0 | with_reducible exact kk _ _ q0 | with_reducible refine sob ?_ (by first | assumption | omega | (simp; omega)) | with_reducible refine oce (by first | omega | (simp; done) | (simp; omega)) ?_)))) (first
                    | (go_at_call 11; (with_reducible refine (C1.out _ hbk.drew).mono ?_); rintro e Wa ⟨rfl, ba⟩; have kk : ∀ p v, wr.cell? p = some v → Wa.cell? p = some v := fun p v h => (ba.cell (World.block_lt_of_cell? wr _ h)).trans h; have lk : ∀ (p : Addr) v, wr.cell? p = some v → p.block < Wa.heap.size := fun p v h => World.block_lt_of_cell? Wa _ (kk _ _ h); have zz : wr.heap.size ≤ Wa.heap.size := ba.size; have n2 : mb ≠ Wa.heap.size := Nat.ne_of_lt (lk _ _ p0); have n3 : b ≠ Wa.heap.size := Nat.ne_of_lt (lk _ _ q0))
                    | (go_at_call 11; (with_reducible refine (C1.out _ (hbk.alloc hbk.size _).drew).mono ?_); rintro e Wa ⟨rfl, ba⟩; have kk : ∀ p v, wr.cell? p = some v → Wa.cell? p = some v := fun p v h => (ba.cell (p := p) (by have := World.block_lt_of_cell? wr _ h; simp; omega)).trans ((World.cell?_of_block (Below.heap_alloc wr _ p.block (World.block_lt_of_cell? wr _ h))).trans h); have zz : wr.heap.size ≤ Wa.heap.size := Nat.le_trans (by simp) ba.size; have xa : Boxe wr.heap.size ⟨#[]⟩ 0 0 ⟨#[]⟩ Wa := Boxe.below (w := (wr.alloc (.cells #[.string ⟨#[]⟩, .int .u64 0, .int .i64 0, .string ⟨#[]⟩] 29)).drew) (new_block wr _ rfl) ba; have z0 := xa.c0; have z1 := xa.c1; have z2 := xa.c2; have z3 := xa.c3; have f0 := xa.f 0; have f1 := xa.f 1; have f2 := xa.f 2; have f3 := xa.f 3)
                    | fail)
                  · have bW' : Below W5.heap.size W5 (Wa.alloc (.cells #[.string K, .int .u64 SQ, .int .i64 NN, .string V] 29)) := by
                      have h1 := hbk.drew.trans (ba.mono hbk.size)
                      exact h1.alloc h1.size _
                    have e0 : (Wa.alloc (.cells #[.string K, .int .u64 SQ, .int .i64 NN, .string V] 29)).cell? ⟨Wa.heap.size, 0, none⟩ = some (.string K) := nce rfl rfl
                    have e1 : (Wa.alloc (.cells #[.string K, .int .u64 SQ, .int .i64 NN, .string V] 29)).cell? ⟨Wa.heap.size, 1, none⟩ = some (.int .u64 SQ) := nce rfl rfl
                    have e2 : (Wa.alloc (.cells #[.string K, .int .u64 SQ, .int .i64 NN, .string V] 29)).cell? ⟨Wa.heap.size, 2, none⟩ = some (.int .i64 NN) := nce rfl rfl
                    have e3 : (Wa.alloc (.cells #[.string K, .int .u64 SQ, .int .i64 NN, .string V] 29)).cell? ⟨Wa.heap.size, 3, none⟩ = some (.string V) := nce rfl rfl
                    generalize Wa.alloc (.cells #[.string K, .int .u64 SQ, .int .i64 NN, .string V] 29) = W' at *
                    clear lk n2 n3 zz
                    have m0 : W'.cell? ⟨mb, moff + p * 4, none⟩ = some (.string MK) := HMC.out W' bW' 0 _ rfl
                    have m1 : W'.cell? ⟨mb, moff + p * 4 + 1, none⟩ = some (.int .u64 MS) := HMC.out W' bW' 1 _ rfl
                    have m2 : W'.cell? ⟨mb, moff + p * 4 + 2, none⟩ = some (.int .i64 MN) := HMC.out W' bW' 2 _ rfl
                    have m3 : W'.cell? ⟨mb, moff + p * 4 + 3, none⟩ = some (.string MV) := HMC.out W' bW' 3 _ rfl
                    have HBW := Lib.hid (show ∀ n, Below W5.heap.size W5 (W'.drewN n) from fun n => drewNE bW' n)
                    clear p0 q0 kk
                    cases t with
                    | true =>
                      go_wp2
                      go_quiet (fail)
                      go_wp2
                      go_roundw
                      case rel => exact ⟨k + 1, true, rfl, by go_num, by omega, .inl rfl, HBW.out _⟩
                      case measure => simp [RowKit.intOf]; omega
                    | false =>
                      cases tt with
                      | false =>
                        go_wp2
                        go_quiet (fail)
                        go_wp2
                        go_roundw
                        case rel => exact ⟨k + 1, false, rfl, by go_num, by omega, HNX.out false (fun h => h) (fun h => by have := of_decide_eq_false HTT.out; exact absurd h.2 this), HBW.out _⟩
                        case measure => simp [RowKit.intOf]; omega
                      | true =>
                        cases h1 : (K.toList == MK.toList) with
                        | false =>
                          have HNE := Lib.hid (show ¬ (K = MK ∧ SQ = MS ∧ NN = MN ∧ V = MV) from fun h => str_neq h1 h.1)
                          go_wp2
                          go_quiet (fail)
                          go_wp2
                          go_roundw
                          case rel => exact ⟨k + 1, false, rfl, by go_num, by omega, HNX.out false (fun h => h) (fun h => by
                            have h1 := h.1
                            simp [Ent.val, ev] at h1
                            exact absurd h1 HNE.out), HBW.out _⟩
                          case measure => simp [RowKit.intOf]; omega
                        | true =>
                          cases h2 : (SQ == MS) with
                          | false =>
                            have HNE := Lib.hid (show ¬ (K = MK ∧ SQ = MS ∧ NN = MN ∧ V = MV) from fun h => by simp [h.2.1] at h2)
                            go_wp2
                            go_quiet (fail)
                            go_wp2
                            go_roundw
                            case rel => exact ⟨k + 1, false, rfl, by go_num, by omega, HNX.out false (fun h => h) (fun h => by
                              have h1 := h.1
                              simp [Ent.val, ev] at h1
                              exact absurd h1 HNE.out), HBW.out _⟩
                            case measure => simp [RowKit.intOf]; omega
                          | true =>
                            cases h3 : (NN == MN) with
                            | false =>
                              have HNE := Lib.hid (show ¬ (K = MK ∧ SQ = MS ∧ NN = MN ∧ V = MV) from fun h => by simp [h.2.2.1] at h3)
                              go_wp2
                              go_quiet (fail)
                              go_wp2
                              go_roundw
                              case rel => exact ⟨k + 1, false, rfl, by go_num, by omega, HNX.out false (fun h => h) (fun h => by
                                have h1 := h.1
                                simp [Ent.val, ev] at h1
                                exact absurd h1 HNE.out), HBW.out _⟩
                              case measure => simp [RowKit.intOf]; omega
                            | true =>
                              cases h4 : (V.toList == MV.toList) with
                              | false =>
                                have HNE := Lib.hid (show ¬ (K = MK ∧ SQ = MS ∧ NN = MN ∧ V = MV) from fun h => str_neq h4 h.2.2.2)
                                go_wp2
                                go_quiet (fail)
                                go_wp2
                                go_roundw
                                case rel => exact ⟨k + 1, false, rfl, by go_num, by omega, HNX.out false (fun h => h) (fun h => by
                                  have h1 := h.1
                                  simp [Ent.val, ev] at h1
                                  exact absurd h1 HNE.out), HBW.out _⟩
                                case measure => simp [RowKit.intOf]; omega
                              | true =>
                                go_wp2
                                go_quiet (fail)
                                go_wp2
                                go_roundw
                                case rel => exact ⟨k + 1, true, rfl, by go_num, by omega, .inl rfl, HBW.out _⟩
                                case measure => simp [RowKit.intOf]; omega
                  · have bW' : Below W5.heap.size W5 ((((Wa.setCell ⟨wr.heap.size, 0, none⟩ (.string K)).setCell ⟨wr.heap.size, 1, none⟩ (.int .u64 SQ)).setCell ⟨wr.heap.size, 2, none⟩ (.int .i64 NN)).setCell ⟨wr.heap.size, 3, none⟩ (.string V)) := by
                      have h0 : Below W5.heap.size W5 (wr.alloc (.cells #[.string ⟨#[]⟩, .int .u64 0, .int .i64 0, .string ⟨#[]⟩] 29)).drew := (hbk.alloc hbk.size _).drew
                      have h1 := h0.trans (ba.mono h0.size)
                      exact (((h1.setCell (p := ⟨wr.heap.size, 0, none⟩) hbk.size _).setCell (p := ⟨wr.heap.size, 1, none⟩) hbk.size _).setCell (p := ⟨wr.heap.size, 2, none⟩) hbk.size _).setCell (p := ⟨wr.heap.size, 3, none⟩) hbk.size _
                    have e0 : ((((Wa.setCell ⟨wr.heap.size, 0, none⟩ (.string K)).setCell ⟨wr.heap.size, 1, none⟩ (.int .u64 SQ)).setCell ⟨wr.heap.size, 2, none⟩ (.int .i64 NN)).setCell ⟨wr.heap.size, 3, none⟩ (.string V)).cell? ⟨wr.heap.size, 0, none⟩ = some (.string K) := soe (soe (soe (sce z0) (by decide)) (by decide)) (by decide)
                    have e1 : ((((Wa.setCell ⟨wr.heap.size, 0, none⟩ (.string K)).setCell ⟨wr.heap.size, 1, none⟩ (.int .u64 SQ)).setCell ⟨wr.heap.size, 2, none⟩ (.int .i64 NN)).setCell ⟨wr.heap.size, 3, none⟩ (.string V)).cell? ⟨wr.heap.size, 1, none⟩ = some (.int .u64 SQ) := soe (soe (sce (soe z1 (by decide))) (by decide)) (by decide)
                    have e2 : ((((Wa.setCell ⟨wr.heap.size, 0, none⟩ (.string K)).setCell ⟨wr.heap.size, 1, none⟩ (.int .u64 SQ)).setCell ⟨wr.heap.size, 2, none⟩ (.int .i64 NN)).setCell ⟨wr.heap.size, 3, none⟩ (.string V)).cell? ⟨wr.heap.size, 2, none⟩ = some (.int .i64 NN) := soe (sce (soe (soe z2 (by decide)) (by decide))) (by decide)
                    have e3 : ((((Wa.setCell ⟨wr.heap.size, 0, none⟩ (.string K)).setCell ⟨wr.heap.size, 1, none⟩ (.int .u64 SQ)).setCell ⟨wr.heap.size, 2, none⟩ (.int .i64 NN)).setCell ⟨wr.heap.size, 3, none⟩ (.string V)).cell? ⟨wr.heap.size, 3, none⟩ = some (.string V) := sce (soe (soe (soe z3 (by decide)) (by decide)) (by decide))
                    generalize ((((Wa.setCell ⟨wr.heap.size, 0, none⟩ (.string K)).setCell ⟨wr.heap.size, 1, none⟩ (.int .u64 SQ)).setCell ⟨wr.heap.size, 2, none⟩ (.int .i64 NN)).setCell ⟨wr.heap.size, 3, none⟩ (.string V)) = W' at *
                    clear xa z0 z1 z2 z3 f0 f1 f2 f3 zz
                    have m0 : W'.cell? ⟨mb, moff + p * 4, none⟩ = some (.string MK) := HMC.out W' bW' 0 _ rfl
                    have m1 : W'.cell? ⟨mb, moff + p * 4 + 1, none⟩ = some (.int .u64 MS) := HMC.out W' bW' 1 _ rfl
                    have m2 : W'.cell? ⟨mb, moff + p * 4 + 2, none⟩ = some (.int .i64 MN) := HMC.out W' bW' 2 _ rfl
                    have m3 : W'.cell? ⟨mb, moff + p * 4 + 3, none⟩ = some (.string MV) := HMC.out W' bW' 3 _ rfl
                    have HBW := Lib.hid (show ∀ n, Below W5.heap.size W5 (W'.drewN n) from fun n => drewNE bW' n)
                    clear p0 q0 kk
                    cases t with
                    | true =>
                      go_wp2
                      go_quiet (fail)
                      go_wp2
                      go_roundw
                      case rel => exact ⟨k + 1, true, rfl, by go_num, by omega, .inl rfl, HBW.out _⟩
                      case measure => simp [RowKit.intOf]; omega
                    | false =>
                      cases tt with
                      | false =>
                        go_wp2
                        go_quiet (fail)
                        go_wp2
                        go_roundw
                        case rel => exact ⟨k + 1, false, rfl, by go_num, by omega, HNX.out false (fun h => h) (fun h => by have := of_decide_eq_false HTT.out; exact absurd h.2 this), HBW.out _⟩
                        case measure => simp [RowKit.intOf]; omega
                      | true =>
                        cases h1 : (K.toList == MK.toList) with
                        | false =>
                          have HNE := Lib.hid (show ¬ (K = MK ∧ SQ = MS ∧ NN = MN ∧ V = MV) from fun h => str_neq h1 h.1)
                          go_wp2
                          go_quiet (fail)
                          go_wp2
                          go_roundw
                          case rel => exact ⟨k + 1, false, rfl, by go_num, by omega, HNX.out false (fun h => h) (fun h => by
                            have h1 := h.1
                            simp [Ent.val, ev] at h1
                            exact absurd h1 HNE.out), HBW.out _⟩
                          case measure => simp [RowKit.intOf]; omega
                        | true =>
                          cases h2 : (SQ == MS) with
                          | false =>
                            have HNE := Lib.hid (show ¬ (K = MK ∧ SQ = MS ∧ NN = MN ∧ V = MV) from fun h => by simp [h.2.1] at h2)
                            go_wp2
                            go_quiet (fail)
                            go_wp2
                            go_roundw
                            case rel => exact ⟨k + 1, false, rfl, by go_num, by omega, HNX.out false (fun h => h) (fun h => by
                              have h1 := h.1
                              simp [Ent.val, ev] at h1
                              exact absurd h1 HNE.out), HBW.out _⟩
                            case measure => simp [RowKit.intOf]; omega
                          | true =>
                            cases h3 : (NN == MN) with
                            | false =>
                              have HNE := Lib.hid (show ¬ (K = MK ∧ SQ = MS ∧ NN = MN ∧ V = MV) from fun h => by simp [h.2.2.1] at h3)
                              go_wp2
                              go_quiet (fail)
                              go_wp2
                              go_roundw
                              case rel => exact ⟨k + 1, false, rfl, by go_num, by omega, HNX.out false (fun h => h) (fun h => by
                                have h1 := h.1
                                simp [Ent.val, ev] at h1
                                exact absurd h1 HNE.out), HBW.out _⟩
                              case measure => simp [RowKit.intOf]; omega
                            | true =>
                              cases h4 : (V.toList == MV.toList) with
                              | false =>
                                have HNE := Lib.hid (show ¬ (K = MK ∧ SQ = MS ∧ NN = MN ∧ V = MV) from fun h => str_neq h4 h.2.2.2)
                                go_wp2
                                go_quiet (fail)
                                go_wp2
                                go_roundw
                                case rel => exact ⟨k + 1, false, rfl, by go_num, by omega, HNX.out false (fun h => h) (fun h => by
                                  have h1 := h.1
                                  simp [Ent.val, ev] at h1
                                  exact absurd h1 HNE.out), HBW.out _⟩
                                case measure => simp [RowKit.intOf]; omega
                              | true =>
                                go_wp2
                                go_quiet (fail)
                                go_wp2
                                go_roundw
                                case rel => exact ⟨k + 1, true, rfl, by go_num, by omega, .inl rfl, HBW.out _⟩
                                case measure => simp [RowKit.intOf]; omega
                · obtain rfl : k = all.length := by omega
                  have ht : t = true := by
                    rcases HGD.out with h | h
                    · exact h
                    · obtain ⟨q, hq, h1⟩ := HGOOD.out
                      obtain ⟨j, hj, rfl⟩ := List.mem_iff_getElem.1 hq
                      exact absurd h1 (h j hj hj)
                  subst ht
                  go_wp2
                  go_roundw
                  case rel => exact ⟨p + 1, by go_num, by omega, hbk⟩
                  case measure => simp [RowKit.intOf]; omega
            · obtain rfl : p = ms.length := by omega
              have hE6 := HM5.out
              have HA := Lib.hid (fun W (h : Below W5.heap.size W5 W) => by
                have hw : Below W2.heap.size W2 W := b25.trans (h.mono b25.size)
                have hp6 : NumsAt W.heap.size W pa plen zs := by
                  refine ⟨hzl, ?_⟩
                  rcases (HP2.out W hw).2 with h0 | ⟨b, off, e, hlt, hc⟩
                  · exact .inl h0
                  · exact .inr ⟨b, off, e, Nat.lt_of_lt_of_le hlt hw.size, hc⟩
                have := shadow_any 30 hS am ms.length cm ms pa plen pcap zs W (HM5.out W h) hp6 (by omega) (by omega) (by omega) HSM2.out
                have h2 := shad_twice (zs := zs) HOR.out
                rw [hel, hms] at h2
                rw [h2] at this
                exact this)
              clear hE6
              go_wp2_with (first
                | (go_at_call 9; (with_reducible refine (alive5_any _).mono ?_); rintro e W6 ⟨rfl, b6⟩; have b56 := hbp.trans (b6.mono hbp.size))
                | (go_at_call 10; (with_reducible refine (HA.out _ b56).mono ?_); rintro e W7 ⟨v7, rfl, r7, o7, b7⟩; obtain ⟨a7, c7, rfl, -, -⟩ := r7.le)
                | fail)
              go_ret
              have k6 := b05.trans (b56.mono b05.size)
              exact ⟨rfl, k6.trans (b7.mono k6.size)⟩
end Go.Proofs.Ythaalhigmihijaa
