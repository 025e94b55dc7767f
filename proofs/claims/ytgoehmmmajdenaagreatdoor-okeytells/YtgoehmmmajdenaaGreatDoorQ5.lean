/- The document's own Get. -/
import Derived.Test.YtgoehmmmajdenaaGreatDoorQ4
import Derived.Test.YtgoehmmmajdenaaGreatDoorK6
namespace Go.Proofs.YtgoehmmmajdenaaGreatDoor
open Go.RowKit

theorem infoPartR : (Tryz.prog.info? 76).map (fun i => (i.zero, i.size, i.bytes)) = some (some (.agg #[.int .i64 0, .string ⟨#[]⟩, .int .u64 0, .int .i64 0]), 4, 40) := by kernel_rfl
/-- What the document's own Get answers. -/
def TellsGetR (w : World) (x : List Prt × List UInt8 × Int) (e : Ending) (w' : World) : Prop :=
  ∃ v, e = .returned (.tuple #[v, .string ⟨x.2.1.toArray⟩, .int .i64 x.2.2]) ∧ w'.ownsRow w.heap.size 76 4 v x.1.length (partsCells x.1) ∧ Below w.heap.size w w'
theorem conv_back2 (x : Nat) (hlt : x < 18446744073709551616) : IntKind.i64.wrap (IntKind.u64.wrap ((x : Int) + 9223372036854775808)) = unturn x := by
  rw [IntKind.wrap_u64, IntKind.wrap_i64]
  unfold unturn
  omega

set_option maxHeartbeats 1000000 in
set_option maxRecDepth 100000 in
theorem refGet_bad (s : ByteArray) (b off cap j : Nat) (ks : List Int) (w : World) (hj : j < ks.length) (hlen : ks.length ≤ 1000000) (hbad : ¬ okKind ks[j]) (hgood : ∀ i (h : i < ks.length), i < j → okKind ks[i])
    (hc : ∀ i (h : i < ks.length), w.cell? ⟨b, off + i, none⟩ = some (.int .i64 ks[i])) :
    Calls Tryz.prog 11 #[.string s, .slice (some ⟨b, off, none⟩) ks.length cap] w fun e w' => e = .returned (.tuple #[.slice none 0 0, .string ⟨#[]⟩, .int .i64 1]) ∧ w = w' := by
  go_enter Tryz.func11, Tryz.ntmps11
  go_wp2
  go_loop [7] (fun i => ∃ k : Nat, k ≤ j ∧ i = .int .i64 k) (fun i => j - (intOf i).toNat)
  case atStart => exact ⟨0, Nat.zero_le _, rfl⟩
  case round =>
    obtain ⟨k, hk, rfl⟩ := hrel
    have hkl : k < ks.length := by omega
    have hcx := hc k hkl
    have hi1 : (k : Int) < (ks.length : Int) := by omega
    by_cases hkj : k = j
    · subst hkj
      have hno : ks[k] < 1 ∨ 3 < ks[k] := by unfold okKind at hbad; omega
      by_cases hk1 : ks[k] < 1
      · clear hno
        go_wp2
        go_ret3
        exact ⟨rfl, rfl⟩
      · have hk3 : 3 < ks[k] := by omega
        have hd1 : decide (ks[k] < 1) = false := by simpa using hk1
        clear hno
        go_wp2
        go_ret3
        exact ⟨rfl, rfl⟩
    · have hyes := hgood k hkl (by omega)
      obtain ⟨hy1, hy2⟩ := hyes
      have hd1 : decide (ks[k] < 1) = false := by simpa using hy1
      have hd2 : decide (3 < ks[k]) = false := by simpa using hy2
      go_wp2
      go_round
      case rel => exact ⟨k + 1, by omega, by go_num⟩
      case measure => simp [intOf]; omega

set_option maxHeartbeats 4000000 in
set_option maxRecDepth 100000 in
theorem refGet_good (s : ByteArray) (b off cap : Nat) (ks : List Int) (w : World) (hs : s.size < 4294967281) (hlen : ks.length ≤ 1000000) (hgood : ∀ i (h : i < ks.length), okKind ks[i])
    (hc : ∀ i (h : i < ks.length), w.cell? ⟨b, off + i, none⟩ = some (.int .i64 ks[i])) (hb : b < w.heap.size) :
    Calls Tryz.prog 11 #[.string s, .slice (some ⟨b, off, none⟩) ks.length cap] w fun e w' => TellsGetR w (rdAll s.data.toList ks) e w' := by
  obtain ⟨i0, hi, hz0, hz1, hz2⟩ := info_parts infoPartR
  go_enter Tryz.func11, Tryz.ntmps11
  go_wp2
  go_loop [7] (fun i => ∃ k : Nat, k ≤ ks.length ∧ i = .int .i64 k) (fun i => ks.length - (intOf i).toNat)
  case atStart => exact ⟨0, Nat.zero_le _, rfl⟩
  case round =>
    obtain ⟨k, hk, rfl⟩ := hrel
    by_cases hkl : k < ks.length
    · have hcx := hc k hkl
      obtain ⟨hy1, hy2⟩ := hgood k hkl
      have hi1 : (k : Int) < (ks.length : Int) := by omega
      have hd1 : decide (ks[k] < 1) = false := by simpa using hy1
      have hd2 : decide (3 < ks[k]) = false := by simpa using hy2
      go_wp2
      go_round
      case rel => exact ⟨k + 1, by omega, by go_num⟩
      case measure => simp [intOf]; omega
    · have hke : k = ks.length := by omega
      subst hke
      clear hkl hk
      go_wp2
      go_loopw [0, 8, 9] (fun vb vl i wr => ∃ (k : Nat) (X : ByteArray) (ps : List Prt), k ≤ ks.length ∧ i = .int .i64 k ∧ vb = .string X ∧ X.size ≤ s.size ∧ ps.length = k ∧ wr.ownsRow w.heap.size 76 4 vl ps.length (partsCells ps) ∧ Below w.heap.size w wr ∧ Hid (rdAll s.data.toList ks = preAll ps (rdAll X.data.toList (ks.drop k)))) (fun _ _ i _ => ks.length - (intOf i).toNat)
      case atStart => exact ⟨0, s, [], Nat.zero_le _, rfl, rfl, Nat.le_refl _, rfl, World.ownsRow_nil _ _ _ _, Below.refl _ _, (preAll_nil _ _).symm⟩
      case round =>
        obtain ⟨k, X, ps, hk, rfl, rfl, hX, hps, hown, hbel, HX⟩ := hrel
        by_cases hkl : k < ks.length
        · have hcx : wr.cell? ⟨b, off + k, none⟩ = some (.int .i64 ks[k]) := (hbel.cell (by exact hb)).trans (hc k hkl)
          obtain ⟨hy1, hy2⟩ := hgood k hkl
          have hi1 : (k : Int) < (ks.length : Int) := by omega
          have hdrop : ks.drop k = ks[k] :: ks.drop (k + 1) := List.drop_eq_getElem_cons hkl
          have HX1 := Lib.hid (HX.out.trans (by rw [hdrop]))
          have hE := Lib.hid (rdAll_cons X.data.toList ks[k] (ks.drop (k + 1)))
          have hB := Lib.hid (rdAll_bad X.data.toList ks[k] (ks.drop (k + 1)))
          have hrl := Lib.hid (rdPart_lt X.data.toList ks[k])
          have hpl : ps.length + 1 ≤ 1000001 := by omega
          have hXl : X.data.toList.length = X.size := rfl
          clear HX hdrop
          generalize ks[k] = kd at hcx hy1 hy2 HX1 hE hB hrl
          by_cases h1 : kd = 1
          · subst h1
            have e1 : rdPart X.data.toList 1 = (⟨1, (rdKey X.data.toList).1, 0, 0⟩, (rdKey X.data.toList).2.1, (rdKey X.data.toList).2.2) := by rw [rdPart, if_pos rfl]
            rw [e1] at hE hB hrl
            have hrk := Lib.hid (refReadKey_any X wr (by omega))
            unfold cutVal at hrk
            generalize rdKey X.data.toList = x at hE hB hrl hrk
            obtain ⟨sx, r, er⟩ := x
            clear e1 hXl
            by_cases her : er = 0
            · subst her
              go_wp2_with (first | (go_at_call 30; refine hrk.out.mono ?_; rintro e w1 ⟨rfl, hb1⟩; have hown1 := own_below hown hb1; have hbel1 : Below w.heap.size w w1 := hbel.trans (hb1.mono hbel.size)) | (at_builtin; refine wpList_append_own _ rfl _ _ 48 rfl w.heap.size 76 i0 _ 4 40 Tryz.underlying48 hi hz0 hz1 hz2 rfl (by decide) _ _ _ rfl (hown1.alloc _) ⟨w1.heap.size, 0, none⟩ 1 1 [Value.int .i64 1, Value.string ⟨sx.toArray⟩, Value.int .u64 0, Value.int .i64 0] rfl rfl ?c1 ?c2 ?c3 ?c4 ?c5 ?_))
              case c1 =>
                intro j u hj
                match j, hj with
                | 0, hj => simp at hj; subst hj; simp [Addr.add]
                | 1, hj => simp at hj; subst hj; simp [Addr.add]
                | 2, hj => simp at hj; subst hj; simp [Addr.add]
                | 3, hj => simp at hj; subst hj; simp [Addr.add]
              case c2 => intro u hu; simp at hu; rcases hu with rfl | rfl | rfl | rfl <;> rfl
              case c3 => unfold maxLen; omega
              case c4 => omega
              case c5 => have := hbel1.size; simp; omega
              intro v' w2 hown' hgrow _
              have hbel2 : Below w.heap.size w w2 := (hbel1.alloc hbel1.size _).grown hgrow (by have := hbel1.size; simp; omega) (fun k hk => (hown1.lt k hk).1)
              clear hgrow
              go_wp2
              go_roundw
              case rel =>
                refine ⟨k + 1, _, ps ++ [⟨1, sx, 0, 0⟩], by omega, by go_num, rfl, ?_, by simp [hps], ?_, hbel2, ?_⟩
                · have h1 : r.length ≤ X.data.toList.length := hrl.out
                  have h2 : X.data.toList.length = X.size := rfl
                  have h3 : (⟨r.toArray⟩ : ByteArray).size = r.length := rfl
                  omega
                · rw [partsCells_snoc, List.length_append, hps]
                  exact hown'
                · show _ = _
                  rw [HX1.out, hE.out (by trivial), preAll_preAll]
              case measure => simp [intOf]; omega
            · have hne : (er != 0) = true := by simpa using her
              have HV := Lib.hid (show rdAll s.data.toList ks = ([], [], er) by
                rw [HX1.out, hB.out her]; simp [preAll, her])
              clear hE hB HX1
              go_wp2_with (first | (go_at_call 30; refine hrk.out.mono ?_; rintro e w1 ⟨rfl, hb1⟩))
              go_ret3
              rw [HV.out]
              exact ⟨_, rfl, World.ownsRow_nil _ _ _ _, hbel.trans (hb1.mono hbel.size)⟩
          · have hd1 : (kd == 1) = false := by simpa using h1
            by_cases h8 : X.size < 8
            · have e1 : rdPart X.data.toList kd = (⟨0, [], 0, 0⟩, [], 5) := by rw [rdPart, if_neg h1, if_pos (by omega)]
              rw [e1] at hB
              have HV := Lib.hid (show rdAll s.data.toList ks = ([], [], 5) by
                rw [HX1.out, hB.out (by decide)]; simp [preAll])
              have hXm : X.size ≤ 9223372036854775807 := by omega
              clear hE hB HX1 e1 hrl
              go_wp2_with (first | (go_at_call 31; refine (refUnfix_short X 0 8 _ hXm (by omega) (by omega) (by omega) (by omega)).mono ?_; rintro e w1 ⟨rfl, rfl⟩))
              go_ret3
              rw [HV.out]
              exact ⟨_, rfl, World.ownsRow_nil _ _ _ _, hbel⟩
            · have hun := Lib.hid (fun w' : World => refUnfix_ok X 0 8 w' (by omega) (by omega) (by omega) (by omega))
              have hp : piece X 0 8 = X.data.toList.take 8 := rfl
              rw [hp] at hun
              have hlt : beVal (X.data.toList.take 8) < 18446744073709551616 := by
                have := beVal_lt (X.data.toList.take 8)
                rw [List.length_take, hXl, Nat.min_eq_left (by omega)] at this
                exact this
              have htl := tail_from X 8
              have h8' : 8 ≤ X.size := by omega
              have e2 : kd = 2 → rdPart X.data.toList kd = (⟨2, [], beVal (X.data.toList.take 8), 0⟩, X.data.toList.drop 8, 0) := by
                intro h2
                rw [rdPart, if_neg h1, if_neg (by omega), if_pos h2]
              have e3 : kd = 3 → rdPart X.data.toList kd = (⟨3, [], 0, unturn (beVal (X.data.toList.take 8))⟩, X.data.toList.drop 8, 0) := by
                intro h3
                rw [rdPart, if_neg h1, if_neg (by omega), if_neg (by omega), h3]
              clear hp hB h8
              generalize beVal (X.data.toList.take 8) = X8 at hun hlt e2 e3
              have hcb := conv_back2 X8 hlt
              by_cases h2 : kd = 2
              · rw [e2 h2] at hE
                clear e2 e3 hcb
                subst h2
                go_wp2_with (first | (go_at_call 31; refine (hun.out _).mono ?_; rintro e w1 ⟨rfl, rfl⟩) | (at_builtin; refine wpList_append_own _ rfl _ _ 48 rfl w.heap.size 76 i0 _ 4 40 Tryz.underlying48 hi hz0 hz1 hz2 rfl (by decide) _ _ _ rfl (hown.alloc _) ⟨wr.heap.size, 0, none⟩ 1 1 [Value.int .i64 2, Value.string ⟨#[]⟩, Value.int .u64 (X8 : Int), Value.int .i64 0] rfl rfl ?c1 ?c2 ?c3 ?c4 ?c5 ?_))
                case c1 =>
                  intro j u hj
                  match j, hj with
                  | 0, hj => simp at hj; subst hj; simp [Addr.add]
                  | 1, hj => simp at hj; subst hj; simp [Addr.add]
                  | 2, hj => simp at hj; subst hj; simp [Addr.add]
                  | 3, hj => simp at hj; subst hj; simp [Addr.add]
                case c2 => intro u hu; simp at hu; rcases hu with rfl | rfl | rfl | rfl <;> rfl
                case c3 => unfold maxLen; omega
                case c4 => omega
                case c5 => have := hbel.size; simp; omega
                intro v' w2 hown' hgrow _
                have hbel2 : Below w.heap.size w w2 := (hbel.alloc hbel.size _).grown hgrow (by have := hbel.size; simp; omega) (fun k hk => (hown.lt k hk).1)
                clear hgrow
                go_wp2
                go_roundw
                case rel =>
                  refine ⟨k + 1, _, ps ++ [⟨2, [], X8, 0⟩], by omega, by go_num, rfl, ?_, by simp [hps], ?_, hbel2, ?_⟩
                  · have h2 : (X.data.toList.drop 8).length ≤ X.data.toList.length := by simp
                    have h3 : (⟨(X.data.toList.drop 8).toArray⟩ : ByteArray).size = (X.data.toList.drop 8).length := rfl
                    omega
                  · rw [partsCells_snoc, List.length_append, hps]
                    exact hown'
                  · show _ = _
                    rw [HX1.out, hE.out (by trivial), preAll_preAll]
                case measure => simp [intOf]; omega
              · have h3 : kd = 3 := by omega
                rw [e3 h3] at hE
                clear e2 e3
                subst h3
                go_wp2_with (first | (go_at_call 31; refine (hun.out _).mono ?_; rintro e w1 ⟨rfl, rfl⟩) | (at_builtin; refine wpList_append_own _ rfl _ _ 48 rfl w.heap.size 76 i0 _ 4 40 Tryz.underlying48 hi hz0 hz1 hz2 rfl (by decide) _ _ _ rfl (hown.alloc _) ⟨wr.heap.size, 0, none⟩ 1 1 [Value.int .i64 3, Value.string ⟨#[]⟩, Value.int .u64 0, Value.int .i64 (unturn X8)] rfl rfl ?c1 ?c2 ?c3 ?c4 ?c5 ?_))
                case c1 =>
                  intro j u hj
                  match j, hj with
                  | 0, hj => simp at hj; subst hj; simp [Addr.add]
                  | 1, hj => simp at hj; subst hj; simp [Addr.add]
                  | 2, hj => simp at hj; subst hj; simp [Addr.add]
                  | 3, hj => simp at hj; subst hj; simp [Addr.add]
                case c2 => intro u hu; simp at hu; rcases hu with rfl | rfl | rfl | rfl <;> rfl
                case c3 => unfold maxLen; omega
                case c4 => omega
                case c5 => have := hbel.size; simp; omega
                intro v' w2 hown' hgrow _
                have hbel2 : Below w.heap.size w w2 := (hbel.alloc hbel.size _).grown hgrow (by have := hbel.size; simp; omega) (fun k hk => (hown.lt k hk).1)
                clear hgrow
                go_wp2
                go_roundw
                case rel =>
                  refine ⟨k + 1, _, ps ++ [⟨3, [], 0, unturn X8⟩], by omega, by go_num, rfl, ?_, by simp [hps], ?_, hbel2, ?_⟩
                  · have h2 : (X.data.toList.drop 8).length ≤ X.data.toList.length := by simp
                    have h3 : (⟨(X.data.toList.drop 8).toArray⟩ : ByteArray).size = (X.data.toList.drop 8).length := rfl
                    omega
                  · rw [partsCells_snoc, List.length_append, hps]
                    exact hown'
                  · show _ = _
                    rw [HX1.out, hE.out (by trivial), preAll_preAll]
                case measure => simp [intOf]; omega
        · have hke : k = ks.length := by omega
          subst hke
          have HV := Lib.hid (show rdAll s.data.toList ks = (ps, X.data.toList, 0) by
            rw [HX.out, List.drop_length]; simp [preAll, rdAll])
          clear HX hkl hk
          go_wp2
          go_ret3
          rw [HV.out]
          exact ⟨_, rfl, hps ▸ hown, hbel⟩
set_option maxHeartbeats 1000000 in
set_option maxRecDepth 100000 in
theorem refGet_none (s : ByteArray) (a : Option Addr) (cap : Nat) (w : World) :
    Calls Tryz.prog 11 #[.string s, .slice a 0 cap] w fun e w' => TellsGetR w ([], s.data.toList, 0) e w' := by
  go_enter Tryz.func11, Tryz.ntmps11
  go_wp2
  refine wp_loop_rounds 1 ?_
  rw [rounds_succ]
  go_wp2
  refine wp_loop_rounds 1 ?_
  rw [rounds_succ]
  go_wp2
  go_ret3
  exact ⟨_, rfl, World.ownsRow_nil _ _ _ _, Below.refl _ _⟩

theorem refGet_any (s : ByteArray) (a : Option Addr) (cap : Nat) (ks : List Int) (w : World) (hs : s.size < 4294967281) (hlen : ks.length ≤ 1000000) (hr : IsRowI w a ks) :
    Calls Tryz.prog 11 #[.string s, .slice a ks.length cap] w fun e w' => TellsGetR w (rdGet s.data.toList ks) e w' := by
  rcases hr with rfl | ⟨b, off, rfl, hc⟩
  · exact refGet_none s a cap w
  · rcases first_bad ks with h | ⟨j, hj, h1, h2⟩
    · rw [rdGet, if_pos h]
      rcases Nat.eq_zero_or_pos ks.length with h0 | h0
      · obtain rfl := List.eq_nil_of_length_eq_zero h0
        exact refGet_none s _ cap w
      · exact refGet_good s b off cap ks w hs hlen (fun i hi => h _ (List.getElem_mem hi)) hc (block_lt (hc 0 h0))
    · rw [rdGet, if_neg (fun h => h1 (h _ (List.getElem_mem hj)))]
      refine (refGet_bad s b off cap j ks w hj hlen h1 h2 hc).mono ?_
      rintro e w1 ⟨rfl, rfl⟩
      exact ⟨_, rfl, World.ownsRow_nil _ _ _ _, Below.refl _ _⟩
end Go.Proofs.YtgoehmmmajdenaaGreatDoor
