/- The walk of FileOrder: of what is pending some first ones stay, never a later one without an earlier one. -/
import Derived.Test.YteejghhcmmocfabFG
import Derived.Lib.BufferRead
namespace Go.Proofs.Yteejghhcmmocfab
open Go.RowKit

/-- The i-th name. -/
def nmi (i : Nat) : Nm := [UInt8.ofNat (97 + i)]
def dirK (i : Nat) : Dir := (List.range i).map fun j => (nmi j, j)
def pendK (i : Nat) : List Chg := (List.range i).map fun j => ⟨[], nmi j, some j⟩
def O (i : Nat) : St := ⟨true, true, 0, (i : Int), -1, -1, dirK i, [], pendK i, List.replicate i ⟨[], 0⟩⟩
theorem nmi_lt {i j : Nat} (h : i < j) (hj : j ≤ 100) : bytesBefore (nmi i) (nmi j) = true := by
  have h1 : (UInt8.ofNat (97 + i)) < (UInt8.ofNat (97 + j)) := by
    rw [UInt8.lt_iff_toNat_lt, UInt8.toNat_ofNat', UInt8.toNat_ofNat']
    omega
  unfold nmi bytesBefore
  rw [decide_eq_true h1]
  rfl
theorem nmi_ne {i j : Nat} (h : i < j) (hj : j ≤ 100) : nmi i ≠ nmi j := by
  intro e
  have := nmi_lt h hj
  rw [e, WideAt.bytes_irrefl] at this
  cases this
theorem dins_end (x : Nm × Nat) : ∀ (l : Dir), (∀ p ∈ l, bytesBefore p.1 x.1 = true) → dins x l = l ++ [x]
  | [], _ => rfl
  | y :: l, h => by
    have hy := h y (by simp)
    have hn : bytesBefore x.1 y.1 = false := by
      cases hb : bytesBefore x.1 y.1
      · rfl
      · have := WideShapes.bytes_trans _ _ _ hy hb
        rw [WideAt.bytes_irrefl] at this
        cases this
    rw [dins, hn, dins_end x l (fun p hp => h p (List.mem_cons_of_mem _ hp))]
    rfl
theorem ddel_none (l : Dir) (n : Nm) (h : ∀ p ∈ l, p.1 ≠ n) : ddel l n = l := by
  unfold ddel
  rw [List.filter_eq_self]
  intro p hp
  simpa using h p hp
theorem dirK_mem {i : Nat} {p : Nm × Nat} (h : p ∈ dirK i) : ∃ j, j < i ∧ p = (nmi j, j) := by
  unfold dirK at h
  obtain ⟨j, hj, rfl⟩ := List.mem_map.1 h
  exact ⟨j, by simpa using hj, rfl⟩
theorem dirK_put (i : Nat) (hi : i ≤ 100) : dput (dirK i) (nmi i) i = dirK (i + 1) := by
  unfold dput
  rw [ddel_none _ _ (fun p hp => by obtain ⟨j, hj, rfl⟩ := dirK_mem hp; exact nmi_ne hj hi), dins_end _ _ (fun p hp => by obtain ⟨j, hj, rfl⟩ := dirK_mem hp; exact nmi_lt hj hi)]
  unfold dirK
  rw [List.range_succ, List.map_append]
  rfl
theorem chg_run (i : Nat) (hi : i ≤ 100) : (Chg.mk ([] : Nm) (nmi i) (some i)).run (dirK i) = dirK (i + 1) := by
  rw [Chg.run_put _ _ (by simp [nmi]) (a := i) (by simp [Chg.file])]
  simp only [Chg.less, if_true]
  exact dirK_put i hi
theorem dirK_get (i : Nat) (hi : i ≤ 100) : dget (dirK i) (nmi i) = none := by
  unfold dget
  rw [Option.map_eq_none_iff, List.find?_eq_none]
  intro p hp
  obtain ⟨j, hj, rfl⟩ := dirK_mem hp
  simpa using nmi_ne hj hi
theorem o_create (i : Nat) (hi : i ≤ 100) : (O i).create (nmi i) = (O (i + 1), 0) := by
  have h1 : isNm (nmi i) = true := by simp [isNm, nmi]
  have h2 : (O i).begun = ⟨true, true, 0, (i : Int) + 1, -1, -1, dirK i, [], pendK i, List.replicate i ⟨[], 0⟩⟩ := rfl
  unfold St.create wr
  rw [if_pos (show (O i).on = true from rfl), h2]
  show ((actCreate (nmi i) _).1, (if (true : Bool) = true then (actCreate (nmi i) _).2 else 14)) = _
  unfold actCreate
  rw [h1]
  simp only [if_true, dirK_get i hi, Option.isSome_none]
  simp only [St.more, St.doing, List.length_replicate, Bool.false_eq_true, if_false]
  rw [chg_run i hi]
  unfold O
  have e1 : pendK i ++ [⟨[], nmi i, some i⟩] = pendK (i + 1) := by
    unfold pendK
    rw [List.range_succ, List.map_append]
    rfl
  have e2 : List.replicate i (Fil.mk [] 0) ++ [⟨[], 0⟩] = List.replicate (i + 1) ⟨[], 0⟩ := by rw [List.replicate_succ']
  rw [e1, e2, show (i : Int) + 1 = ((i + 1 : Nat) : Int) by omega]
theorem redo_pend : ∀ (k : Nat), k ≤ 100 → redo [] (pendK k) = dirK k
  | 0, _ => rfl
  | k + 1, h => by
    have e1 : pendK (k + 1) = pendK k ++ [⟨[], nmi k, some k⟩] := by
      unfold pendK
      rw [List.range_succ, List.map_append]
      rfl
    rw [e1, redo_snoc, redo_pend k (by omega), chg_run k (by omega)]
theorem pend_take (n k : Nat) (h : k ≤ n) : (pendK n).take k = pendK k := by
  unfold pendK
  rw [← List.map_take, List.take_range, Nat.min_eq_left h]
theorem cuts_zero : ∀ (d : Dir) (n : Nat), (∀ p ∈ d, p.2 < n) → cuts (List.replicate n ⟨[], 0⟩) d [] = List.replicate n ⟨[], 0⟩
  | [], _, _ => rfl
  | p :: d, n, h => by
    rw [cuts]
    have h1 : (List.replicate n (Fil.mk [] 0)).getD p.2 default = ⟨[], 0⟩ := by
      rw [List.getD_eq_getElem?_getD, List.getElem?_replicate, if_pos (h p (by simp))]
      rfl
    have h2 : (Fil.mk ([] : List UInt8) 0).cut (([] : List Int).headD 0) = ⟨[], 0⟩ := by decide
    rw [h1, h2]
    have h3 : (List.replicate n (Fil.mk [] 0)).set p.2 ⟨[], 0⟩ = List.replicate n ⟨[], 0⟩ := by
      rw [List.set_replicate_self]
    rw [h3]
    exact cuts_zero d n (fun q hq => h q (List.mem_cons_of_mem _ hq))
def P (n k : Nat) (on : Bool) : St := ⟨true, on, 0, (n : Int), -1, -1, dirK k, dirK k, [], List.replicate n ⟨[], 0⟩⟩
theorem o_crash (n : Nat) (hn : n ≤ 20) (keep : Int) : (O n).crash keep [] = P n (modn keep (n + 1)) false := by
  have hl : (O n).pend.length = n := by simp [O, pendK]
  have hm := modn_lt keep (n + 1) (by omega)
  have e1 : redo (O n).last ((O n).pend.take (modn keep ((O n).pend.length + 1))) = dirK (modn keep (n + 1)) := by
    rw [hl]
    show redo [] ((pendK n).take _) = _
    rw [pend_take _ _ (by omega), redo_pend _ (by omega)]
  unfold St.crash
  simp only [e1]
  have e2 : cuts (O n).files (dirK (modn keep (n + 1))) [] = List.replicate n ⟨[], 0⟩ := cuts_zero _ _ (fun p hp => by obtain ⟨j, hj, rfl⟩ := dirK_mem hp; show j < n; omega)
  rw [e2]
  rfl
theorem p_names (n k : Nat) : (P n k true).names = (List.range k).map nmi := by
  show (dirK k).map (·.1) = _
  unfold dirK
  rw [List.map_map]
  rfl
/-- The i-th name as a text. -/
def chB (i : Nat) : ByteArray := ⟨(nmi i).toArray⟩
theorem nmi_text (i : Nat) : (chB i).data.toList = nmi i := rfl
theorem chB_size (i : Nat) : (chB i).size = 1 := rfl
theorem row_form {w : World} {v : Value} {ns : List Nm} (h : Row w 9 1 v ns.length (nmVals ns)) : ∃ a cap, v = .slice a ns.length cap ∧ (ns.length = 0 ∨ ∃ g o, a = some ⟨g, o, none⟩ ∧ ∀ i (h : i < ns.length), w.cell? ⟨g, o + i, none⟩ = some (.string ⟨ns[i].toArray⟩)) := by
  have hc := h.cell
  obtain ⟨a, cap, hv, -, -⟩ := h.le
  refine ⟨a, cap, hv, ?_⟩
  rcases h.2 with ⟨h0, -⟩ | ⟨g, c, cur, hv', -⟩
  · exact .inl h0
  · rw [hv] at hv'
    cases hv'
    exact .inr ⟨g, 0, rfl, fun i hi => hc g 0 _ hv i _ (by simp [nmVals, hi, encStr])⟩
theorem tmod_cases (x : Int) (b : Nat) (hb : 0 < b) : (x.tmod (b : Int) = (modn x b : Int) ∧ 0 ≤ x.tmod (b : Int)) ∨ (x.tmod (b : Int) + (b : Int) = (modn x b : Int) ∧ x.tmod (b : Int) < 0) := by
  have h0 := Int.emod_nonneg x (show (b : Int) ≠ 0 by omega)
  have h1 := Int.emod_lt_of_pos x (show (0 : Int) < (b : Int) by omega)
  have e : (modn x b : Int) = x % (b : Int) := by unfold modn; omega
  rw [e]
  have htm : x.tmod (b : Int) = x % (b : Int) - ((if 0 ≤ x ∨ (b : Int) ∣ x then 0 else (b : Int).natAbs : Nat) : Int) := Int.tmod_eq_emod
  split at htm
  · exact .inl ⟨by omega, by omega⟩
  · exact .inr ⟨by omega, by omega⟩
/-- string([]byte{byte('a' + i)}). -/
theorem conv_one (i : Nat) (hi : i ≤ 100) (w : World) : (convert 38 9 (.slice (some ⟨w.heap.size, 0, none⟩) 1 1)).run Try.prog (w.alloc (.cells #[.int .u8 (97 + (i : Int))] 5)) = .ok (.string (chB i)) (w.alloc (.cells #[.int .u8 (97 + (i : Int))] 5)) := by
  have h := run_convert_bytes_back (P := Try.prog) (w.alloc (.cells #[.int .u8 (97 + (i : Int))] 5)) 38 9 5 ⟨w.heap.size, 0, none⟩ 1 [UInt8.ofNat (97 + i)] Try.underlying38 Try.underlying5 Try.underlying9 (fun j hj => by
    obtain rfl : j = 0 := by simp at hj; omega
    have hv : ((UInt8.ofNat (97 + i)).toNat : Int) = 97 + (i : Int) := by rw [UInt8.toNat_ofNat']; omega
    show _ = some (Value.int .u8 ((UInt8.ofNat (97 + i)).toNat : Int))
    rw [hv]
    have hadd : (⟨w.heap.size, 0, none⟩ : Addr).add 0 = ⟨w.heap.size, 0, none⟩ := by unfold Addr.add; split <;> simp_all
    rw [hadd]
    exact ncell rfl rfl)
  exact h
def w4cell (w : World) (g o K : Nat) : Prop := ∀ x, x < K → w.cell? ⟨g, o + x, none⟩ = some (.string (chB x))
set_option maxHeartbeats 8000000 in
set_option maxRecDepth 100000 in
theorem order_hard (n : Nat) (keep : Int) (w : World) (hn : n ≤ 20) :
    Calls Try.prog 4 #[.int .i64 (n : Int), .int .i64 keep] w fun e w' => e = .returned (.bool true) ∧ Below w.heap.size w w' := by
  have C0 := Lib.hid (has_new 0 (by omega) w)
  have C1 := Lib.hid (fun i (hi : i < n) p w1 (h : Has w.heap.size p (2 * i) 0 (O i) w1) => by
    have := has_create h (by omega) (chB i) (by rw [chB_size]; unfold maxLen; omega)
    rw [nmi_text, o_create i (by omega)] at this
    exact this)
  obtain ⟨K, hK⟩ : ∃ K, K = modn keep (n + 1) := ⟨_, rfl⟩
  have hKn : K ≤ n := by rw [hK]; have := modn_lt keep (n + 1) (by omega); omega
  have C2 := Lib.hid (fun p w1 (h : Has w.heap.size p (2 * n) 0 (O n) w1) => by
    have := has_crash0 h (by omega) (by omega) keep
    rw [o_crash n hn, ← hK] at this
    exact this)
  have C3 := Lib.hid (fun p w1 (h : Has w.heap.size p (2 * n) 0 (P n K false) w1) => by
    have := has_restore h
    rw [show (P n K false).restore = P n K true from rfl] at this
    exact this)
  have C4 := Lib.hid (fun p w1 (h : Has w.heap.size p (2 * n) 0 (P n K true) w1) => by
    have := has_names h (by omega)
    rw [p_names] at this
    exact this)
  have e1 : decide ((n : Int) < 0) = false := by simp
  have e2 : decide (20 < (n : Int)) = false := by simp; omega
  go_enter Try.func4, Try.ntmps4
  go_wp2_with (go_at_call 9; refine C0.out.mono ?_; rintro e W0 ⟨p, rfl, h0, b0⟩)
  go_loopw [6] (fun iv wr => ∃ i : Nat, i ≤ n ∧ iv = .int .i64 (i : Int) ∧ Has w.heap.size p (2 * i) 0 (O i) wr ∧ Below w.heap.size w wr) (fun iv _ => n - (intOf iv).toNat)
  case atStart => exact ⟨0, Nat.zero_le _, rfl, h0, b0⟩
  case round =>
    obtain ⟨i, hi, rfl, hh, hbl⟩ := hrel
    by_cases hlt : i < n
    · have hcv := conv_one i (by omega) wr
      have hw8 : IntKind.u8.wrap (97 + (i : Int)) = 97 + (i : Int) := by rw [IntKind.wrap_u8]; omega
      have hB := hbl.size
      have hwa : Below wr.heap.size wr (wr.alloc (.cells #[.int .u8 (97 + (i : Int))] 5)) := (Below.refl _ _).alloc (Nat.le_refl _) _
      have HC := Lib.hid (C1.out i hlt p _ (hh.below hwa))
      have HW := Lib.hid hwa
      clear hwa
      generalize chB i = NM at hcv HC
      go_wp2_with (go_at_call 17; refine HC.out.mono ?_; rintro e W1 ⟨rfl, h1, b1⟩)
      go_roundw
      case rel => exact ⟨i + 1, by omega, by go_num, h1.up (by omega) (Nat.le_refl _), (hbl.trans (HW.out.mono hB)).trans b1⟩
      case measure => simp [intOf]; omega
    · obtain rfl : i = n := by omega
      have hkey := tmod_cases keep (i + 1) (by omega)
      rw [← hK, show ((i + 1 : Nat) : Int) = (i : Int) + 1 from by omega] at hkey
      have hlt1 := Int.tmod_lt_of_pos keep (show (0 : Int) < (i : Int) + 1 by omega)
      have hlt2 := tmod_low keep (show (0 : Int) < (i : Int) + 1 by omega)
      clear hK
      have hlen4 : ((List.range K).map nmi).length = K := by simp
      rcases hkey with ⟨ht, hp⟩ | ⟨ht, hneg⟩
      · have hd : decide (keep.tmod ((i : Int) + 1) < 0) = false := by simpa using hp
        rw [ht] at hlt1 hlt2 hp
        go_wp2_with (first | (go_at_call 18; refine (C2.out _ _ hh).mono ?_; rintro e W2 ⟨rfl, h2, b2⟩) | (go_at_call 19; refine (C3.out _ _ h2).mono ?_; rintro e W3 ⟨rfl, h3, b3⟩) | (go_at_call 15; refine (C4.out _ _ h3).mono ?_; rintro e W4 ⟨v4, rfl, hr4, h4, b4⟩; obtain ⟨a4, cap4, rfl, hr5⟩ := row_form hr4; rw [hlen4]))
        have k4 : Below w.heap.size w W4 := ((hbl.trans b2).trans b3).trans (b4.mono h3.size)
        go_loopw [9] (fun iv wr => ∃ j : Nat, j ≤ K ∧ iv = .int .i64 (j : Int) ∧ Below W4.heap.size W4 wr) (fun iv _ => K - (intOf iv).toNat)
        case atStart => exact ⟨0, Nat.zero_le _, rfl, Below.refl _ _⟩
        case round =>
          obtain ⟨j, hj, rfl, hbj⟩ := hrel
          by_cases hjlt : j < K
          · obtain ⟨g, o, rfl, hcell⟩ : ∃ g o, a4 = some ⟨g, o, none⟩ ∧ w4cell W4 g o K := by
              rcases hr5 with h0 | ⟨g, o, e, hc⟩
              · rw [hlen4] at h0; omega
              · refine ⟨g, o, e, fun x hx => ?_⟩
                have := hc x (by rw [hlen4]; exact hx)
                rw [this]
                simp [chB]
            have hgl := World.block_lt_of_cell? W4 _ (hcell j hjlt)
            have q : wr.cell? ⟨g, o + j, none⟩ = some (.string (chB j)) := (hbj.cell (p := ⟨g, o + j, none⟩) hgl).trans (hcell j hjlt)
            have hcv : (convert 38 9 (.slice (some ⟨wr.heap.size, 0, none⟩) 1 1)).run Try.prog (wr.alloc (.cells #[.int .u8 (97 + (j : Int))] 5)).drew = .ok (.string (chB j)) (wr.alloc (.cells #[.int .u8 (97 + (j : Int))] 5)).drew := conv_one j (by omega) wr.drew
            have hw8 : IntKind.u8.wrap (97 + (j : Int)) = 97 + (j : Int) := by rw [IntKind.wrap_u8]; omega
            have hw9 : IntKind.i64.wrap (97 + (j : Int)) = 97 + (j : Int) := by rw [IntKind.wrap_i64]; omega
            have hjk : (j : Int) < (K : Int) := by omega
            have hgr : g < wr.heap.size := Nat.lt_of_lt_of_le hgl hbj.size
            generalize chB j = NM at q hcv
            clear hcell hr5
            go_wp2
            have qa : ∀ ob, (wr.alloc ob).cell? ⟨g, o + j, none⟩ = some (.string NM) := fun _ => ocell hgr q
            go_region_with (fail)
            all_goals
              go_wp2
              go_roundw
              case rel => exact ⟨j + 1, by omega, by go_num, (hbj.alloc hbj.size _).drew⟩
              case measure => simp [intOf]; omega
          · obtain rfl : j = K := by omega
            go_wp2_with (go_at_call 8; refine (alive4_any _).mono ?_; rintro e WA ⟨rfl, bA⟩)
            go_ret
            refine ⟨rfl, ?_⟩
            have k5 := k4.trans (hbj.mono k4.size)
            exact k5.trans (bA.mono k5.size)
      · have hd : decide (keep.tmod ((i : Int) + 1) < 0) = true := by simpa using hneg
        go_wp2_with (first | (go_at_call 18; refine (C2.out _ _ hh).mono ?_; rintro e W2 ⟨rfl, h2, b2⟩) | (go_at_call 19; refine (C3.out _ _ h2).mono ?_; rintro e W3 ⟨rfl, h3, b3⟩) | (go_at_call 15; refine (C4.out _ _ h3).mono ?_; rintro e W4 ⟨v4, rfl, hr4, h4, b4⟩; obtain ⟨a4, cap4, rfl, hr5⟩ := row_form hr4; rw [hlen4]))
        have k4 : Below w.heap.size w W4 := ((hbl.trans b2).trans b3).trans (b4.mono h3.size)
        go_loopw [9] (fun iv wr => ∃ j : Nat, j ≤ K ∧ iv = .int .i64 (j : Int) ∧ Below W4.heap.size W4 wr) (fun iv _ => K - (intOf iv).toNat)
        case atStart => exact ⟨0, Nat.zero_le _, rfl, Below.refl _ _⟩
        case round =>
          obtain ⟨j, hj, rfl, hbj⟩ := hrel
          by_cases hjlt : j < K
          · obtain ⟨g, o, rfl, hcell⟩ : ∃ g o, a4 = some ⟨g, o, none⟩ ∧ w4cell W4 g o K := by
              rcases hr5 with h0 | ⟨g, o, e, hc⟩
              · rw [hlen4] at h0; omega
              · refine ⟨g, o, e, fun x hx => ?_⟩
                have := hc x (by rw [hlen4]; exact hx)
                rw [this]
                simp [chB]
            have hgl := World.block_lt_of_cell? W4 _ (hcell j hjlt)
            have q : wr.cell? ⟨g, o + j, none⟩ = some (.string (chB j)) := (hbj.cell (p := ⟨g, o + j, none⟩) hgl).trans (hcell j hjlt)
            have hcv : (convert 38 9 (.slice (some ⟨wr.heap.size, 0, none⟩) 1 1)).run Try.prog (wr.alloc (.cells #[.int .u8 (97 + (j : Int))] 5)).drew = .ok (.string (chB j)) (wr.alloc (.cells #[.int .u8 (97 + (j : Int))] 5)).drew := conv_one j (by omega) wr.drew
            have hw8 : IntKind.u8.wrap (97 + (j : Int)) = 97 + (j : Int) := by rw [IntKind.wrap_u8]; omega
            have hw9 : IntKind.i64.wrap (97 + (j : Int)) = 97 + (j : Int) := by rw [IntKind.wrap_i64]; omega
            have hjk : (j : Int) < (K : Int) := by omega
            have hgr : g < wr.heap.size := Nat.lt_of_lt_of_le hgl hbj.size
            generalize chB j = NM at q hcv
            clear hcell hr5
            go_wp2
            have qa : ∀ ob, (wr.alloc ob).cell? ⟨g, o + j, none⟩ = some (.string NM) := fun _ => ocell hgr q
            go_region_with (fail)
            all_goals
              go_wp2
              go_roundw
              case rel => exact ⟨j + 1, by omega, by go_num, (hbj.alloc hbj.size _).drew⟩
              case measure => simp [intOf]; omega
          · obtain rfl : j = K := by omega
            go_wp2_with (go_at_call 8; refine (alive4_any _).mono ?_; rintro e WA ⟨rfl, bA⟩)
            go_ret
            refine ⟨rfl, ?_⟩
            have k5 := k4.trans (hbj.mono k4.size)
            exact k5.trans (bA.mono k5.size)
set_option maxHeartbeats 1000000 in
theorem fileOrder_walk (n : Int) (_ : -9223372036854775808 ≤ n) (_ : n ≤ 9223372036854775807) (keep : Int) (_ : -9223372036854775808 ≤ keep) (_ : keep ≤ 9223372036854775807) (w : World) :
    Calls Try.prog 4 #[.int .i64 n, .int .i64 keep] w fun e w' => e = .returned (.bool true) ∧ Below w.heap.size w w' := by
  by_cases h1 : n < 0
  · have hd1 : decide (n < 0) = true := by simpa using h1
    go_enter Try.func4, Try.ntmps4
    go_wp2_with (go_at_call 8; refine (alive4_any _).mono ?_; rintro e w1 ⟨rfl, hb1⟩)
    go_ret
    exact ⟨rfl, hb1⟩
  · by_cases h2 : 20 < n
    · have hd1 : decide (n < 0) = false := by simpa using h1
      have hd2 : decide (20 < n) = true := by simpa using h2
      go_enter Try.func4, Try.ntmps4
      go_wp2_with (go_at_call 8; refine (alive4_any _).mono ?_; rintro e w1 ⟨rfl, hb1⟩)
      go_ret
      exact ⟨rfl, hb1⟩
    · obtain ⟨k, rfl⟩ : ∃ k : Nat, n = (k : Int) := ⟨n.toNat, by omega⟩
      exact order_hard k keep w (by omega)
end Go.Proofs.Yteejghhcmmocfab
