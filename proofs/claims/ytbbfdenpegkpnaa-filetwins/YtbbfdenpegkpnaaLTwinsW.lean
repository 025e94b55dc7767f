/- The walk of FileTwins: a twin shows the same; what happens to it does not happen to the other one. -/
import Derived.Test.YtbbfdenpegkpnaaFHR
import Derived.Test.YtbbfdenpegkpnaaRK
import Derived.Test.YtbbfdenpegkpnaaSP
import Derived.Test.YtbbfdenpegkpnaaRM
namespace Go.Proofs.Ytbbfdenpegkpnaa
open Go.RowKit

theorem infoT4 : (Try.prog.info? 9).map (fun i => (i.zero, i.size, i.bytes)) = some (some (.string ⟨#[]⟩), 1, 16) := by kernel_rfl
section
variable {B p n m : Nat} {s : St} {w : World}
theorem Has.nml (h : Has B p n m s w) : s.names.length ≤ n := by
  obtain ⟨r, h1, -, -, h4, -⟩ := h
  have := h4.nowl
  unfold St.names
  split
  · simpa using this
  · simp
theorem Has.nms (h : Has B p n m s w) : ∀ x ∈ s.names, x.length ≤ maxLen := by
  obtain ⟨r, h1, -, -, h4, -⟩ := h
  intro x hx
  unfold St.names at hx
  split at hx
  · obtain ⟨q, hq, rfl⟩ := List.mem_map.1 hx
    have := h1.wf.nnms q hq
    simp only [isNm, Bool.and_eq_true, decide_eq_true_eq] at this
    unfold maxLen
    omega
  · cases hx
def rdT (s : St) (x : Nm) : ByteArray := ⟨(s.read x).1.toArray⟩
def rdE (s : St) (x : Nm) : Int := (s.read x).2
def wasV (s : St) (l : List Nm) : List Value := l.map fun x => .string (rdT s x)
theorem has_readN (h : Has B p n m s w) (x : Nm) (hx : x.length ≤ maxLen) :
    Calls Try.prog 16 #[.pointer (some ⟨p, 0, none⟩), .string ⟨x.toArray⟩] w fun e w' => e = .returned (.tuple #[.string (rdT s x), .int .i64 (rdE s x)]) ∧ w = w' :=
  has_read h ⟨x.toArray⟩ (by simpa [ByteArray.size] using hx)
theorem has_namesB (h : Has B p n m s w) (hN : n ≤ 1000000) :
    Calls Try.prog 15 #[.pointer (some ⟨p, 0, none⟩)] w fun e w' => ∃ v, e = .returned v ∧ Row w' 9 1 v s.names.length (nmVals s.names) ∧ (∀ k, ob v = some k → w.heap.size ≤ k) ∧ Below w.heap.size w w' := by
  obtain ⟨r, h1, rfl, -, h4, -⟩ := h
  refine (namesS_any h1 h4 hN).mono ?_
  rintro e w' ⟨v, rfl, hr, hb, hf⟩
  exact ⟨v, rfl, hr, hf, hb⟩
/-- Blocks that were laid behind a System are no part of it. -/
theorem Has.keepK {w2 : World} (h : Has B p n m s w) (hb : Below w.heap.size w w2) : HasK (fun k => w.heap.size ≤ k ∧ k < w2.heap.size) w2 B p n m s w2 := by
  obtain ⟨r, h1, h2, h3, h4, h5⟩ := h
  refine ⟨r, h1.below hb, h2, h3, h4, h5, fun k hk => ⟨fun hm => ?_, hk.2, rfl⟩⟩
  have := h1.lt k hm
  omega
end
theorem Row.below {w w' : World} {e : TypeId} {size : Nat} {v : Value} {n : Nat} {xs : List Value} (h : Row w e size v n xs) (hb : Below w.heap.size w w') : Row w' e size v n xs := h.kept fun k hk => hb.block k (h.lt k hk)
theorem row_some {w : World} {e : TypeId} {size : Nat} {a : Option Addr} {n c : Nat} {xs : List Value} (h : Row w e size (.slice a n c) n xs) (hn : 0 < n) : ∃ g, a = some ⟨g, 0, none⟩ := by
  rcases h.2 with ⟨h0, -⟩ | ⟨g, cap, cur, hv, -⟩
  · omega
  · cases hv
    exact ⟨g, rfl⟩
set_option maxHeartbeats 2000000 in
set_option maxRecDepth 100000 in
theorem fileTwins_walk (a : Option Addr) (len cap : Nat) (l : List Stp) (a' : Option Addr) (len' cap' : Nat) (l' : List Stp) (w : World) (hO : IsOs w a len l) (hO' : IsOs w a' len' l') :
    Calls Try.prog 3 #[.slice a len cap, .slice a' len' cap'] w fun e w' => e = .returned (.bool true) ∧ Below w.heap.size w w' := by
  have hlm : len ≤ 9223372036854775807 := by have := hO.1; unfold maxLen at this; omega
  have hlm' : len' ≤ 9223372036854775807 := by have := hO'.1; unfold maxLen at this; omega
  have HO := Lib.hid hO
  have HO' := Lib.hid hO'
  clear hO hO'
  obtain ⟨i0, hi, hz0, hzs, hzb⟩ := info_parts infoT4
  go_enter Try.func3, Try.ntmps3
  go_wp2_with (fail)
  go_at_call 7
  refine (light_any (Below.refl _ _) a len cap l HO.out).mono ?_
  rintro e W1 ⟨t1, rfl, ht1, b1⟩
  cases t1
  · go_wp2_with (go_at_call 8; refine (alive4_any _).mono ?_; rintro e WA ⟨rfl, bA⟩)
    go_ret
    exact ⟨rfl, b1.trans (bA.mono b1.size)⟩
  go_wp2_with (fail)
  go_at_call 7
  refine (light_any b1 a' len' cap' l' HO'.out).mono ?_
  rintro e W2 ⟨t2, rfl, ht2, b2⟩
  have b02 : Below w.heap.size w W2 := b1.trans (b2.mono b1.size)
  cases t2
  · go_wp2_with (go_at_call 8; refine (alive4_any _).mono ?_; rintro e WA ⟨rfl, bA⟩)
    go_ret
    exact ⟨rfl, b02.trans (bA.mono b02.size)⟩
  obtain ⟨-, hsm⟩ := ht1 trivial
  obtain ⟨-, hsm'⟩ := ht2 rfl
  clear ht1 ht2
  by_cases h60 : 60 < len
  · have d1 : decide (60 < (len : Int)) = true := by simp; omega
    go_wp2_with (go_at_call 8; refine (alive4_any _).mono ?_; rintro e WA ⟨rfl, bA⟩)
    go_ret
    exact ⟨rfl, b02.trans (bA.mono b02.size)⟩
  have d1 : decide (60 < (len : Int)) = false := by simp; omega
  by_cases h61 : 60 < len'
  · have d2 : decide (60 < (len' : Int)) = true := by simp; omega
    go_wp2_with (go_at_call 8; refine (alive4_any _).mono ?_; rintro e WA ⟨rfl, bA⟩)
    go_ret
    exact ⟨rfl, b02.trans (bA.mono b02.size)⟩
  have d2 : decide (60 < (len' : Int)) = false := by simp; omega
  have C0 := Lib.hid (has_new 0 (by omega) W2)
  have C1 := Lib.hid (fun p W (h : Has W2.heap.size p 0 0 (St.new 0) W) (hb : Below W2.heap.size W2 W) => run_any h b02.size (b02.trans (hb.mono b02.size)) a len cap l HO.out (by omega) (by omega) (by omega) (fun x hx => (hsm x hx).2.2.1))
  go_wp2_with (first
    | (go_at_call 9; refine C0.out.mono ?_; rintro e W3 ⟨p, rfl, h3, b3⟩)
    | (go_at_call 10; refine (C1.out _ _ h3 b3).mono ?_; rintro e W4 ⟨rfl, s1, h4, b4⟩)
    | (go_at_call 11; refine (has_twin h4 (by omega) (by omega)).mono ?_; rintro e W5 ⟨p', s2, f, rfl, h5t, tw, h5, b5, hnm, hrd⟩; have hon := tw.on; have hst := tw.steps; clear tw)
    | fail)
  have hsz45 : W4.heap.size ≤ W5.heap.size := b5.size
  have cs1 := has_steps h5t
  rw [hst] at cs1
  have CS1 := Lib.hid cs1
  have CS2 := Lib.hid (has_steps h5)
  have co1 := has_on h5t
  rw [hon] at co1
  have CO1 := Lib.hid co1
  have CO2 := Lib.hid (has_on h5)
  have cn1 := has_namesB h5t (by omega)
  rw [hnm] at cn1
  have CN1 := Lib.hid cn1
  have CN2 := Lib.hid (fun W (hb : Below W5.heap.size W5 W) => has_namesB (h5.below hb) (by omega))
  have HNL := Lib.hid (show s1.names.length ≤ 1000000 from Nat.le_trans h5.nml (by omega))
  have CT := Lib.hid (fun v0 v1 W h0 h1 => sameT_any v0 v1 s1.names W h0 h1 HNL.out)
  have H5 := Lib.hid h5
  have H5t := Lib.hid h5t
  have HNM := Lib.hid h5.nms
  have HRD := Lib.hid hrd
  have H4 := Lib.hid h4
  clear cs1 co1 cn1 hst hon hnm h5 h5t hrd h4 h3
  generalize s1.steps = ST at *
  generalize hON : s1.on = ON at *
  go_wp2_with (first
    | (go_at_call 12; (with_reducible refine CS1.out.mono ?_); rintro e WS ⟨rfl, rfl⟩)
    | (go_at_call 12; (with_reducible refine CS2.out.mono ?_); rintro e WS ⟨rfl, rfl⟩)
    | (go_at_call 13; (with_reducible refine CO1.out.mono ?_); rintro e WS ⟨rfl, rfl⟩)
    | (go_at_call 13; (with_reducible refine CO2.out.mono ?_); rintro e WS ⟨rfl, rfl⟩)
    | (go_at_call 15; (with_reducible refine CN1.out.mono ?_); rintro e W6 ⟨v6, rfl, r6, o6, b6⟩)
    | (go_at_call 15; (with_reducible refine (CN2.out _ b6).mono ?_); rintro e W7 ⟨v7, rfl, r7, o7, b7⟩; have r67 := r6.below b7; have b57 := b6.trans (b7.mono b6.size))
    | (go_at_call 14; (with_reducible refine (CT.out _ _ _ r67 r7).mono ?_); rintro e W8 ⟨rfl, b8⟩; have b58 := b57.trans (b8.mono b57.size))
    | (go_at_call 15; (with_reducible refine (CN2.out _ b58).mono ?_); rintro e W9 ⟨v9, rfl, r9, o9, b9⟩; obtain ⟨a9, cap9, rfl, hr9⟩ := row_form r9)
    | fail)
  have b59 := b58.trans (b9.mono b58.size)
  have HR9 := Lib.hid hr9
  have R9 := Lib.hid r9
  clear hr9
  obtain ⟨ns, hns⟩ : ∃ ns, s1.names = ns := ⟨_, rfl⟩
  rw [hns] at HR9 R9 HNL CT CN2 HNM o9 ⊢
  have hnl := HNL.out
  go_loopw [8, 9] (fun wv iv wr => ∃ (i : Nat) (V : Value), V = wv ∧ i ≤ ns.length ∧ iv = .int .i64 (i : Int) ∧ Row wr 9 1 wv i (wasV s1 (ns.take i)) ∧ (∀ k, ob wv = some k → W9.heap.size ≤ k) ∧ Below W9.heap.size W9 wr) (fun _ iv _ => ns.length - (intOf iv).toNat)
  case atStart => exact ⟨0, _, rfl, Nat.zero_le _, rfl, row_nil _ _ _, fun k hk => by simp [ob] at hk, Below.refl _ _⟩
  case round =>
    obtain ⟨i, wv, rfl, hi9, rfl, hrow, hob, hbl⟩ := hrel
    by_cases hlt : i < ns.length
    · obtain ⟨g, o, rfl, hcell⟩ : ∃ g o, a9 = some ⟨g, o, none⟩ ∧ W9.cell? ⟨g, o + i, none⟩ = some (.string ⟨ns[i].toArray⟩) := by
        rcases HR9.out with h0 | ⟨g, o, e, hc⟩
        · omega
        · exact ⟨g, o, e, hc i hlt⟩
      have q : wr.cell? ⟨g, o + i, none⟩ = some (.string ⟨ns[i].toArray⟩) := (hbl.cell (p := ⟨g, o + i, none⟩) (World.block_lt_of_cell? W9 _ hcell)).trans hcell
      have b5r := b59.trans (hbl.mono b59.size)
      have e1 := has_readN (H5.out.below b5r) ns[i] (HNM.out _ (List.getElem_mem _))
      have e2 := has_readN (H5t.out.below b5r) ns[i] (HNM.out _ (List.getElem_mem _))
      rw [show rdT s2 ns[i] = rdT s1 ns[i] by unfold rdT; rw [HRD.out]] at e2
      have E1 := Lib.hid e1
      have E2 := Lib.hid e2
      have HT := Lib.hid (show wasV s1 (ns.take (i + 1)) = wasV s1 (ns.take i) ++ [.string (rdT s1 ns[i])] by unfold wasV; rw [List.take_succ_eq_append_getElem hlt, List.map_append]; rfl)
      have HRW := Lib.hid hrow
      clear e1 e2 hcell hrow
      generalize rdT s1 ns[i] = T at *
      generalize rdE s1 ns[i] = X1 at *
      generalize rdE s2 ns[i] = X2 at *
      generalize (⟨ns[i].toArray⟩ : ByteArray) = NM at *
      have hil : (i : Int) < (ns.length : Int) := by omega
      have HSrc := Lib.hid (Src.ofSlice (P := Try.prog) (wr.alloc (.cells #[.string T] 9)) (size := 1) Try.underlying31 ⟨wr.heap.size, 0, none⟩ 1 1 [.string T] rfl (fun j u hu => by
        match j, hu with
        | 0, hu => simpa [Addr.add] using hu) (by simp [Value.oneCell']))
      have HB1 := Lib.hid (show i + 1 ≤ maxLen by unfold maxLen; omega)
      have HB2 := Lib.hid (show (i + 1) * 16 ≤ 140737488355328 by omega)
      go_wp2_with (first
        | (go_at_call 16; (with_reducible refine E1.out.mono ?_); rintro e WS ⟨rfl, rfl⟩)
        | (go_at_call 16; (with_reducible refine E2.out.mono ?_); rintro e WS ⟨rfl, rfl⟩)
        | (at_builtin; refine wpList_append_row _ rfl _ _ 31 31 rfl 9 i0 _ 1 16 Try.underlying31 hi hz0 hzs hzb rfl wv i _ rfl (HRW.out.kept fun k hk => Below.heap_alloc wr _ k (HRW.out.lt k hk)) _ rfl 1 _ HSrc.out HB1.out HB2.out ?_; intro v' w5 hrow5 hgrow5 hob5)
        | fail)
      have hB5 : Below W9.heap.size W9 w5 := by
        have h1 : Below W9.heap.size W9 (wr.alloc (.cells #[.string T] 9)) := hbl.alloc hbl.size _
        exact h1.trans ((turn_of_grown (F := (ob wv).toList) hgrow5 (fun k hk => .inl (by simp [hk]))).below h1.size (fun k hk => hob k (by simpa using hk)))
      go_roundw
      case rel =>
        refine ⟨i + 1, _, rfl, by omega, by go_num, by rw [HT.out]; exact hrow5, fun k hk => ?_, hB5⟩
        rcases hob5 with e | ⟨e, -⟩
        · exact hob k (by rw [← e]; exact hk)
        · rw [e] at hk
          cases hk
          have := hbl.size
          simp
          omega
      case measure => simp [intOf]; omega
    · obtain rfl : i = ns.length := by omega
      rw [List.take_length] at hrow
      have b5r := b59.trans (hbl.mono b59.size)
      have co3 := has_on (H5.out.below b5r)
      rw [hON] at co3
      have CO3 := Lib.hid co3
      have z1 := b02.size
      have z2 := b3.size
      have z3 := b4.size
      have b04 : Below w.heap.size w W4 := (b02.trans (b3.mono z1)).trans (b4.mono z1)
      have b0r : Below w.heap.size w wr := (b04.trans (b5.mono b04.size)).trans (b5r.mono (by omega))
      have CR := Lib.hid (runK_any (H5t.out.keepK b5r) b04.size b0r a' len' cap' l' HO'.out (by omega) (by omega) (by omega) (fun x hx => (hsm' x hx).2.2.1))
      obtain ⟨aw, cw, rfl, -, -⟩ := hrow.le
      have HRW := Lib.hid hrow
      clear hrow co3
      go_wp2_with (first
        | (go_at_call 13; (with_reducible refine CO3.out.mono ?_); rintro e WS ⟨rfl, rfl⟩)
        | (go_at_call 10; (with_reducible refine CR.out.mono ?_); rintro e W10 ⟨rfl, s3, hk, b10⟩)
        | fail)
      have b410 : Below W4.heap.size W4 W10 := (b5.trans (b5r.mono hsz45)).trans b10
      have h10 := H4.out.below b410
      have KP := Lib.hid hk.kept
      have y1 := b58.size
      have y2 := b9.size
      have y3 := hbl.size
      have r910 : Row W10 9 1 (.slice a9 ns.length cap9) ns.length (nmVals ns) := (R9.out.below hbl).kept fun k hk => KP.out k ⟨by have := o9 k hk; omega, by have := R9.out.lt k hk; omega⟩
      have rw10 : Row W10 9 1 (.slice aw ns.length cw) ns.length (wasV s1 ns) := HRW.out.kept fun k hk => KP.out k ⟨by have := hob k hk; omega, HRW.out.lt k hk⟩
      have co4 := has_on h10
      rw [hON] at co4
      have CO4 := Lib.hid co4
      have cn4 := has_namesB h10 (by omega)
      rw [hns] at cn4
      have CN4 := Lib.hid cn4
      have H10 := Lib.hid h10
      have R10 := Lib.hid r910
      have RW := Lib.hid rw10
      have z4 := b5.size
      have z5 := b5r.size
      have b010 : Below w.heap.size w W10 := b0r.trans (b10.mono (by omega))
      clear co4 cn4 h10 hk r910 rw10
      go_wp2_with (first
        | (go_at_call 13; (with_reducible refine CO4.out.mono ?_); rintro e WS ⟨rfl, rfl⟩)
        | (go_at_call 15; (with_reducible refine CN4.out.mono ?_); rintro e W11 ⟨v11, rfl, r11, o11, b11⟩)
        | (go_at_call 14; (with_reducible refine (CT.out _ _ _ r11 (R10.out.below b11)).mono ?_); rintro e W12 ⟨rfl, b12⟩)
        | fail)
      have b1012 := b11.trans (b12.mono b11.size)
      have b012 : Below w.heap.size w W12 := b010.trans (b1012.mono b010.size)
      go_loopw [15] (fun iv wr => ∃ i : Nat, i ≤ ns.length ∧ iv = .int .i64 (i : Int) ∧ Below W12.heap.size W12 wr) (fun iv _ => ns.length - (intOf iv).toNat)
      case atStart => exact ⟨0, Nat.zero_le _, rfl, Below.refl _ _⟩
      case round =>
        obtain ⟨i, hi9, rfl, hbq⟩ := hrel
        by_cases hlt : i < ns.length
        · have b10q : Below W10.heap.size W10 wr := b1012.trans (hbq.mono b1012.size)
          have r9q := R10.out.below b10q
          have rwq := RW.out.below b10q
          obtain ⟨g, rfl⟩ := row_some r9q (by omega)
          obtain ⟨g', rfl⟩ := row_some rwq (by omega)
          have q1 : wr.cell? ⟨g, 0 + i, none⟩ = some (.string ⟨ns[i].toArray⟩) := r9q.cell g 0 _ rfl i _ (by simp [nmVals, hlt, encStr])
          have q2 : wr.cell? ⟨g', 0 + i, none⟩ = some (.string (rdT s1 ns[i])) := rwq.cell g' 0 _ rfl i _ (by simp [wasV, hlt])
          rw [Nat.zero_add] at q1 q2
          have E1 := Lib.hid (has_readN (H10.out.below b10q) ns[i] (HNM.out _ (List.getElem_mem _)))
          clear r9q rwq
          generalize rdT s1 ns[i] = T at *
          generalize rdE s1 ns[i] = X1 at *
          generalize (⟨ns[i].toArray⟩ : ByteArray) = NM at *
          have hil : (i : Int) < (ns.length : Int) := by omega
          go_wp2_with (first
            | (go_at_call 16; (with_reducible refine E1.out.mono ?_); rintro e WS ⟨rfl, rfl⟩)
            | fail)
          go_roundw
          case rel => exact ⟨i + 1, by omega, by go_num, hbq⟩
          case measure => simp [intOf]; omega
        · obtain rfl : i = ns.length := by omega
          go_wp2_with (go_at_call 8; refine (alive4_any _).mono ?_; rintro e WA ⟨rfl, bA⟩)
          go_ret
          have k1 := b012.trans (hbq.mono b012.size)
          exact ⟨rfl, k1.trans (bA.mono k1.size)⟩
end Go.Proofs.Ytbbfdenpegkpnaa
