/- The document's own places, ValidFilter and May of filters. -/
import Derived.Test.YtdbdifbcfplegaaG4
import Derived.Deep.DeepCutAuto
import Derived.Deep.QuietTactic
import Derived.BigQuiet
namespace Go.Proofs.Ytdbdifbcfplegaa
open Go.RowKit

theorem infoU64 : (Try.prog.info? 44).map (fun i => (i.zero, i.size, i.bytes)) = some (some (.int .u64 0), 1, 8) := by kernel_rfl
def cellsU (l : List Nat) : List Value := l.map fun (x : Nat) => .int .u64 (x : Int)
theorem cellsU_len (l : List Nat) : (cellsU l).length = l.length := by simp [cellsU]
theorem cellsU_get (l : List Nat) (i x : Nat) (h : l[i]? = some x) : (cellsU l)[i]? = some (.int .u64 (x : Int)) := by simp [cellsU, h]

set_option maxHeartbeats 2000000 in
set_option maxRecDepth 100000 in
theorem rplaces_any (key : ByteArray) (p n : Nat) (w : World) (hks : key.size ≤ 9223372036854775807) (hp : p ≤ 20) (hn0 : 1 ≤ n) (hn1 : n ≤ 100000000) :
    Calls Try.prog 20 #[.string key, .int .i64 (p : Int), .int .u64 (n : Int)] w fun e w' => ∃ v, e = .returned v ∧ w'.ownsRow w.heap.size 44 1 v p (cellsU (plcs key.data.toList n p)) ∧ Below w.heap.size w w' := by
  obtain ⟨i0, hi, hz0, hz1, hz2⟩ := info_parts infoU64
  have H0 := Lib.hid (fun W' : World => rhash_any key 0 W' hks (by omega))
  have H1 := Lib.hid (fun W' : World => rhash_any key 1 W' hks (by omega))
  rw [show ((0 : Nat) : Int) = 0 from rfl] at H0
  rw [show ((1 : Nat) : Int) = 1 from rfl] at H1
  have HP : Hid (∀ i, plc key.data.toList n i = (hashN key.data.toList 0 + i * hashN key.data.toList 1) % n) := fun _ => rfl
  have HQ := Lib.hid (plcs_succ key.data.toList n)
  have hb0 := hashN_lt key.data.toList 0 (by omega)
  have hb1 := hashN_lt key.data.toList 1 (by omega)
  have HS : Hid (∀ i, i ≤ 20 → hashN key.data.toList 0 + i * hashN key.data.toList 1 < 18446744073709551616) := plc_sum key.data.toList
  have HE : Hid (plcs key.data.toList n 0 = []) := rfl
  obtain ⟨pl, hpl⟩ : ∃ pl, plcs key.data.toList n = pl := ⟨_, rfl⟩
  rw [hpl] at HQ HE ⊢
  clear hpl
  obtain ⟨pc, hpc⟩ : ∃ pc, plc key.data.toList n = pc := ⟨_, rfl⟩
  rw [hpc] at HP HQ
  clear hpc
  obtain ⟨h, hh⟩ : ∃ h, hashN key.data.toList 0 = h := ⟨_, rfl⟩
  rw [hh] at H0 HP HS hb0
  clear hh
  obtain ⟨g, hg⟩ : ∃ g, hashN key.data.toList 1 = g := ⟨_, rfl⟩
  rw [hg] at H1 HP HS hb1
  clear hg
  have hw0 : IntKind.u64.wrap (h : Int) = (h : Int) := by rw [IntKind.wrap_u64]; omega
  have hw1 : IntKind.u64.wrap (g : Int) = (g : Int) := by rw [IntKind.wrap_u64]; omega
  go_enter Try.func20, Try.ntmps20
  go_wp2_with (first | (go_at_call 12; (with_reducible refine (H0.out _).mono ?_); rintro e w1 ⟨rfl, rfl⟩) | (go_at_call 12; (with_reducible refine (H1.out _).mono ?_); rintro e w1 ⟨rfl, rfl⟩) | fail)
  go_loopw [7, 10] (fun v i wr => ∃ k : Nat, k ≤ p ∧ i = .int .i64 k ∧ wr.ownsRow w.heap.size 44 1 v k (cellsU (pl k)) ∧ Below w.heap.size w wr) (fun _ i _ => p - (intOf i).toNat)
  case atStart => exact ⟨0, Nat.zero_le _, rfl, by rw [HE.out]; exact World.ownsRow_nil w w.heap.size 44 1, Below.refl _ _⟩
  case round =>
    obtain ⟨k, hk, rfl, hown, hB⟩ := hrel
    by_cases hlt : k < p
    · obtain ⟨m, hm⟩ : ∃ m, k * g = m := ⟨_, rfl⟩
      have hse := HS.out k (by omega)
      rw [hm] at hse
      have hmi : (k : Int) * (g : Int) = (m : Int) := by rw [← hm]; simp
      have hrem : ((h : Int) + (m : Int)).tmod (n : Int) = ((pc k : Nat) : Int) := by
        rw [HP.out, hm, Int.tmod_eq_emod_of_nonneg (by omega), Int.natCast_emod]
        rfl
      have hne : ¬ ((n : Int) = 0) := by omega
      have hne2 : ¬ (n = 0) := by omega
      have hs3 : (h : Int) + (m : Int) < 18446744073709551616 := by omega
      have hm3 : (m : Int) < 18446744073709551616 := by omega
      have hwk : IntKind.u64.wrap (k : Int) = (k : Int) := by rw [IntKind.wrap_u64]; omega
      have HN := Lib.hid (HQ.out k)
      have hs := hB.size
      clear hm hse
      go_wp2_with (at_builtin; refine wpList_append_own _ rfl _ _ 45 rfl w.heap.size 44 i0 (.int .u64 0) 1 8 Try.underlying45 hi hz0 hz1 hz2 rfl (by decide) _ _ _ rfl (hown.alloc _) ⟨wr.heap.size, 0, none⟩ 1 1 [.int .u64 ((pc k : Nat) : Int)] rfl rfl ?c1 ?c2 ?c3 ?c4 ?c5 ?_)
      case c1 =>
        intro j u hj
        match j, hj with
        | 0, hj => simp at hj; subst hj; simp [Addr.add]
      case c2 => intro u hu; simp at hu; subst hu; rfl
      case c3 => unfold maxLen; omega
      case c4 => omega
      case c5 => simp; omega
      intro v2 w2 hown2 hgrow2 _
      have hb2 : Below w.heap.size w w2 := (hB.alloc hs _).grown hgrow2 (by simp; omega) (fun k hk => (hown.lt k hk).1)
      have hown3 : w2.ownsRow w.heap.size 44 1 v2 (k + 1) (cellsU (pl (k + 1))) := by
        rw [HN.out]
        unfold cellsU
        rw [List.map_append, List.map_cons, List.map_nil]
        exact hown2
      have HO := Lib.hid hown3
      clear hgrow2 hown hown2
      obtain ⟨g2, cap2, rfl⟩ : ∃ g2 cap2, v2 = .slice (some ⟨g2, 0, none⟩) (k + 1) cap2 := by
        rcases hown3.2 with ⟨-, hz⟩ | ⟨g, cap', cur, rfl, -⟩
        · omega
        · exact ⟨g, cap', rfl⟩
      clear hown3
      go_wp2
      go_roundw
      case rel => exact ⟨k + 1, by omega, by go_num, HO.out, hb2⟩
      case measure => simp [intOf]; omega
    · obtain rfl : k = p := by omega
      have HO := Lib.hid hown
      rcases hown.2 with ⟨rfl, -⟩ | ⟨g', cap', cur, rfl, -⟩
      · clear hown
        go_wp2
        go_ret
        exact ⟨_, rfl, HO.out, hB⟩
      · clear hown
        go_wp2
        go_ret
        exact ⟨_, rfl, HO.out, hB⟩
set_option maxHeartbeats 1000000 in
theorem rvalid_any (f : ByteArray) (w : World) (hf : f.size ≤ 9223372036854775807) :
    Calls Try.prog 16 #[.string f] w fun e w' => e = .returned (.bool (validB f.data.toList)) ∧ w = w' := by
  by_cases h2 : f.size < 2
  · have hv : validB f.data.toList = false := by
      unfold validB
      have e : f.data.toList.length = f.size := rfl
      rw [e]
      exact decide_eq_false (by omega)
    rw [hv]
    have d0 : decide (2 ≤ (f.size : Int)) = false := decide_eq_false (by omega)
    go_enter Try.func16, Try.ntmps16
    go_wp2
    go_ret
    exact ⟨rfl, rfl⟩
  · have hv := validB_eq f (by omega)
    obtain ⟨b, hb⟩ : ∃ b, f[f.size - 1]'(by omega) = b := ⟨_, rfl⟩
    rw [hb] at hv
    have HV := Lib.hid hv
    clear hv
    have hbl := b.toNat_lt
    by_cases h1 : 1 ≤ b.toNat
    · by_cases h20 : b.toNat ≤ 20
      · have ht : validB f.data.toList = true := by rw [HV.out]; simp [h1, h20]
        have d1 : decide ((b.toNat : Int) ≤ 20) = true := decide_eq_true (by omega)
        rw [ht]
        go_enter Try.func16, Try.ntmps16
        go_wp2
        go_ret
        exact ⟨rfl, rfl⟩
      · have ht : validB f.data.toList = false := by rw [HV.out]; simp; omega
        have d1 : decide ((b.toNat : Int) ≤ 20) = false := decide_eq_false (by omega)
        rw [ht]
        go_enter Try.func16, Try.ntmps16
        go_wp2
        go_ret
        exact ⟨rfl, rfl⟩
    · have ht : validB f.data.toList = false := by rw [HV.out]; simp; omega
      have d1 : decide (1 ≤ (b.toNat : Int)) = false := decide_eq_false (by omega)
      rw [ht]
      go_enter Try.func16, Try.ntmps16
      go_wp2
      go_ret
      exact ⟨rfl, rfl⟩
theorem drewN_add7 (w : World) (a b : Nat) : (w.drewN a).drewN b = w.drewN (a + b) := by
  show World.mk _ _ _ _ _ = _
  first | rfl | (simp [World.drewN, Nat.add_assoc])
theorem bit_form2 (f : ByteArray) (x : Nat) (h : x / 8 < f.size) : (Go.bits .and .u8 (f[x / 8].toNat : Int) (2 ^ (x % 8) % 256) == 0) = !bitAt f.data.toList x := by
  have hb := f[x / 8].toNat_lt
  have h8 : x % 8 < 8 := by omega
  have h2 : (2 : Nat) ^ (x % 8) < 2 ^ 8 := Nat.pow_lt_pow_right (by omega) h8
  have hpos : 0 < (2 : Nat) ^ (x % 8) := Nat.pow_pos (by omega)
  have e : ((2 : Int) ^ (x % 8) % 256) = ((2 ^ (x % 8) : Nat) : Int) := by
    have : ((2 : Int) ^ (x % 8)) = ((2 ^ (x % 8) : Nat) : Int) := by simp
    rw [this]
    generalize (2 : Nat) ^ (x % 8) = z at h2
    omega
  rw [e, u8_and_nat _ _ (by omega) (by omega)]
  unfold bitAt
  rw [byteAt_string _ _ h]
  have ht : (f[x / 8].toNat &&& 2 ^ (x % 8)).testBit (x % 8) = f[x / 8].toNat.testBit (x % 8) := by
    rw [Nat.testBit_and, Nat.testBit_two_pow_self, Bool.and_true]
  cases hc : f[x / 8].toNat.testBit (x % 8) with
  | true =>
    rw [hc] at ht
    have : (f[x / 8].toNat &&& 2 ^ (x % 8)) ≠ 0 := by
      intro e0
      rw [e0] at ht
      simp at ht
    simpa using this
  | false =>
    have : (f[x / 8].toNat &&& 2 ^ (x % 8)) = 0 := by
      apply Nat.eq_of_testBit_eq
      intro i
      rw [Nat.testBit_and, Nat.testBit_two_pow, Nat.zero_testBit]
      by_cases e1 : x % 8 = i
      · rw [← e1, hc]; rfl
      · simp [e1]
    rw [this]
    rfl
set_option maxHeartbeats 1000000 in
theorem rmay_bad (f key : ByteArray) (w : World) (hf : f.size ≤ 1000000) (hv : validB f.data.toList = false) :
    Calls Try.prog 14 #[.string f, .string key] w fun e w' => e = .returned (.bool true) ∧ Below w.heap.size w w' := by
  have CV := Lib.hid (fun W : World => rvalid_any f W (by omega))
  rw [hv] at CV
  clear hv
  go_enter Try.func14, Try.ntmps14
  go_wp2_with (go_at_call 16; refine (CV.out _).mono ?_; rintro e w1 ⟨rfl, rfl⟩)
  go_ret
  exact ⟨rfl, Below.refl _ _⟩
set_option maxHeartbeats 4000000 in
set_option maxRecDepth 100000 in
theorem rmay_good (f key : ByteArray) (w : World) (sz p : Nat) (hf : f.size ≤ 1000000) (hk : key.size ≤ 9223372036854775807) (hv : validB f.data.toList = true) (hsz : f.size = sz + 1) (hz0 : 1 ≤ sz) (hp : (byteAt f.data.toList (f.size - 1)).toNat = p) (hp2 : p ≤ 20) :
    Calls Try.prog 14 #[.string f, .string key] w fun e w' => e = .returned (.bool (mayB f.data.toList key.data.toList)) ∧ Below w.heap.size w w' := by
  have HM : Hid (mayB f.data.toList key.data.toList = (plcs key.data.toList (sz * 8) p).all (bitAt f.data.toList)) := by
    show _ = _
    have e : f.data.toList.length = f.size := rfl
    unfold mayB
    rw [hv, e, hp, hsz, Nat.add_sub_cancel]
    rfl
  have CV := Lib.hid (fun W : World => rvalid_any f W (by omega))
  rw [hv] at CV
  clear hv
  have hidx : sz < f.size := by omega
  have hpb : f[sz].toNat = p := by
    rw [← hp, hsz, Nat.add_sub_cancel, byteAt_string _ _ hidx]
  clear hp
  have hpw : wrap64 (p : Int) = (p : Int) := by unfold wrap64; omega
  obtain ⟨n8, hn8⟩ : ∃ n8, sz * 8 = n8 := ⟨_, rfl⟩
  have hn8i : (sz : Int) * 8 = (n8 : Int) := by omega
  have CP := Lib.hid (fun (W : World) => rplaces_any key p n8 W hk hp2 (by omega) (by omega))
  rw [hn8] at HM
  have HPL := Lib.hid (plcs_len key.data.toList n8 p)
  have HLT : Hid (∀ x ∈ plcs key.data.toList n8 p, x < n8) := fun x hx => plcs_lt (by omega) hx
  obtain ⟨pl, hpl⟩ : ∃ pl, plcs key.data.toList n8 p = pl := ⟨_, rfl⟩
  rw [hpl] at HM CP HPL HLT
  clear hpl
  have hwz : IntKind.u64.wrap (sz : Int) = (sz : Int) := by rw [IntKind.wrap_u64]; omega
  go_enter Try.func14, Try.ntmps14
  go_wp2_with (fail)
  go_at_call 16
  refine (CV.out _).mono ?_
  rintro e w1 ⟨rfl, rfl⟩
  go_wp2_with (fail)
  go_at_call 20
  refine (CP.out _).mono ?_
  rintro e w1 ⟨v, rfl, hown, hB⟩
  have HO := Lib.hid hown
  obtain ⟨g, cap, hv⟩ : ∃ a cap, v = .slice a p cap := by
    rcases hown.2 with ⟨rfl, hz⟩ | ⟨g, cap', cur, rfl, -⟩
    · exact ⟨none, 0, by rw [hz]⟩
    · exact ⟨_, cap', rfl⟩
  subst hv
  clear hown CV CP
  go_wp2
  clear hsz hpb
  go_loopw [6] (fun i wr => ∃ k n : Nat, k ≤ p ∧ i = .int .i64 k ∧ wr = w1.drewN n ∧ Hid (∀ x ∈ pl.take k, bitAt f.data.toList x = true)) (fun i _ => p - (intOf i).toNat)
  case atStart => exact ⟨0, 0, Nat.zero_le _, rfl, rfl, Lib.hid (by simp)⟩
  case round =>
    obtain ⟨k, n, hk2, rfl, rfl, HA⟩ := hrel
    by_cases hlt : k < p
    · obtain ⟨g0, rfl⟩ : ∃ g0, g = some ⟨g0, 0, none⟩ := by
        rcases HO.out.2 with ⟨h', hz⟩ | ⟨g, cap', cur, h', -⟩
        · omega
        · cases h'; exact ⟨_, rfl⟩
      have hkl : k < pl.length := by rw [HPL.out]; exact hlt
      have hcx : w1.cell? ⟨g0, k, none⟩ = some (.int .u64 ((pl[k] : Nat) : Int)) := by
        rw [HO.out.cellAt k (by omega)]
        exact cellsU_get pl k _ (List.getElem?_eq_getElem hkl)
      have HT : Hid (pl.take (k + 1) = pl.take k ++ [pl[k]]) := List.take_succ_eq_append_getElem hkl
      have hin : pl[k] ∈ pl := List.getElem_mem hkl
      have hxl := HLT.out _ hin
      generalize pl[k] = x at hcx HT hin hxl
      obtain ⟨q, hq⟩ : ∃ q, x / 8 = q := ⟨_, rfl⟩
      obtain ⟨r, hr⟩ : ∃ r, x % 8 = r := ⟨_, rfl⟩
      have hqi : (x : Int) / 8 = (q : Int) := by omega
      have hri : (x : Int) % 8 = (r : Int) := by omega
      have hq2 : q < f.size := by omega
      have hq3 : (q : Int) < (f.size : Int) := by omega
      have hwq : IntKind.u64.wrap (q : Int) = (q : Int) := by rw [IntKind.wrap_u64]; omega
      have hwr : IntKind.u64.wrap (r : Int) = (r : Int) := by rw [IntKind.wrap_u64]; omega
      have hrt : (x : Int).tmod 8 = (r : Int) := by rw [Int.tmod_eq_emod_of_nonneg (by omega)]; omega
      have HB : Hid ((Go.bits .and .u8 (f[q].toNat : Int) (2 ^ r % 256) == 0) = !bitAt f.data.toList x) := by
        show _ = _
        have := bit_form2 f x (by omega)
        simp only [hq, hr] at this
        exact this
      have hkI : (k : Int) < (p : Int) := by omega
      cases hbt : bitAt f.data.toList x with
      | true =>
        have ht : (Go.bits .and .u8 (f[q].toNat : Int) (2 ^ r % 256) == 0) = false := by rw [HB.out, hbt]; rfl
        clear HB
        go_wp2
        go_quiet (fail)
        go_wp2
        go_roundw
        case rel =>
          refine ⟨k + 1, n + nq, by omega, by go_num, by first | rfl | (rw [drewN_add7]), ?_⟩
          intro y hy
          rw [HT.out] at hy
          rcases List.mem_append.1 hy with hy | hy
          · exact HA.out y hy
          · rw [List.mem_singleton] at hy
            rw [hy]
            exact hbt
        case measure => simp [intOf]; omega
      | false =>
        have ht : (Go.bits .and .u8 (f[q].toNat : Int) (2 ^ r % 256) == 0) = true := by rw [HB.out, hbt]; rfl
        have HMt : Hid (mayB f.data.toList key.data.toList = false) := by
          show _ = _
          rw [HM.out, List.all_eq_false]
          exact ⟨x, hin, by rw [hbt]; simp⟩
        clear HB HM
        go_wp2
        go_quiet (fail)
        go_wp2
        go_ret
        exact ⟨by rw [HMt.out]; rfl, ⟨hB.os, hB.tape, hB.output, hB.size, hB.block⟩⟩
    · obtain rfl : k = p := by omega
      have HMt : Hid (mayB f.data.toList key.data.toList = true) := by
        show _ = _
        rw [HM.out, List.all_eq_true]
        intro y hy
        refine HA.out y ?_
        rw [List.take_of_length_le (by rw [HPL.out]; exact Nat.le_refl _)]
        exact hy
      clear HM HPL
      go_wp2
      go_ret
      exact ⟨by rw [HMt.out]; rfl, ⟨hB.os, hB.tape, hB.output, hB.size, hB.block⟩⟩
theorem rmay_any (f key : ByteArray) (w : World) (hf : f.size ≤ 1000000) (hk : key.size ≤ 9223372036854775807) :
    Calls Try.prog 14 #[.string f, .string key] w fun e w' => e = .returned (.bool (mayB f.data.toList key.data.toList)) ∧ Below w.heap.size w w' := by
  cases hv : validB f.data.toList with
  | false =>
    have hm : mayB f.data.toList key.data.toList = true := by unfold mayB; rw [hv]; rfl
    rw [hm]
    exact rmay_bad f key w hf hv
  | true =>
    have h : 2 ≤ f.size ∧ 1 ≤ (byteAt f.data.toList (f.size - 1)).toNat ∧ (byteAt f.data.toList (f.size - 1)).toNat ≤ 20 := of_decide_eq_true hv
    exact rmay_good f key w (f.size - 1) _ hf hk hv (by omega) (by omega) rfl h.2.2
end Go.Proofs.Ytdbdifbcfplegaa
