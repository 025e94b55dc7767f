/- The document's own Range. -/
import Derived.Test.YthaalhigmihijacGreatBE
import Derived.Deep.RegionLaw
import Derived.BigRegion
import Derived.Laws.Cover1
namespace Go.Proofs.YthaalhigmihijacGreat
open Go.RowKit

def lessB (a b : ByteArray) : Bool := decide (Lib.compareBytes a.data.toList b.data.toList = -1)
theorem lessB_any (a b : ByteArray) (w : World) (ha : a.size ≤ 9223372036854775807) (hb : b.size ≤ 9223372036854775807) :
    Calls Tryz.prog 87 #[.string a, .string b] w fun e w' => e = .returned (.bool (lessB a b)) ∧ Below w.heap.size w w' := less_any a b w ha hb
def inRange (lo hi : ByteArray) (e : Ent) : Bool := !(lessB e.k lo) && (hi.toList.isEmpty || lessB e.k hi)
def rangeE (lo hi : ByteArray) (es : List Ent) : List Ent := es.filter (inRange lo hi)
theorem rangeE_take (lo hi : ByteArray) (es : List Ent) (i : Nat) (h : i < es.length) : rangeE lo hi (es.take (i + 1)) = rangeE lo hi (es.take i) ++ (if inRange lo hi es[i] = true then [es[i]] else []) := by
  unfold rangeE
  rw [List.take_succ_eq_append_getElem h, List.filter_append]
  congr 1
  by_cases hc : inRange lo hi es[i] = true
  · rw [if_pos hc]
    simp [hc]
  · rw [if_neg hc]
    simp [hc]
theorem rangeE_le (lo hi : ByteArray) (es : List Ent) : (rangeE lo hi es).length ≤ es.length := List.length_filter_le _ _
set_option maxHeartbeats 8000000 in
set_option maxRecDepth 100000 in
theorem range_any {n₀ : Nat} (a : Option Addr) (len cap : Nat) (es : List Ent) (lo hi : ByteArray) (w : World) (hn : n₀ ≤ w.heap.size) (hE : EntsAt n₀ w a len es) (hl : len ≤ 100000) (hk : ∀ y ∈ es, y.k.size ≤ 9223372036854775807) (h1 : lo.size ≤ 9223372036854775807) (h2 : hi.size ≤ 9223372036854775807) :
    Calls Tryz.prog 29 #[.slice a len cap, .string lo, .string hi] w fun e w' => ∃ v, e = .returned v ∧ Row w' 52 4 v (rangeE lo hi es).length (cellsE (rangeE lo hi es)) ∧ (rangeE lo hi es = [] → v = .slice none 0 0) ∧ (∀ b, ob v = some b → w.heap.size ≤ b) ∧ Below w.heap.size w w' := by
  have hel := hE.1
  have HE := Lib.hid hE
  have HK := Lib.hid hk
  obtain ⟨i0, hi0, hz0, hzs, hzb⟩ := info_parts infoE5
  clear hE hk
  go_enter Tryz.func29, Tryz.ntmps29
  go_wp2
  go_loopw [7, 8] (fun ov iv wr => ∃ (i : Nat) (V : Value), V = ov ∧ iv = .int .i64 (i : Int) ∧ i ≤ len ∧ Row wr 52 4 V (rangeE lo hi (es.take i)).length (cellsE (rangeE lo hi (es.take i))) ∧ (rangeE lo hi (es.take i) = [] → V = .slice none 0 0) ∧ (∀ b, ob V = some b → w.heap.size ≤ b) ∧ Below w.heap.size w wr) (fun _ iv _ => len - (intOf iv).toNat)
  case atStart => exact ⟨0, _, rfl, rfl, Nat.zero_le _, row_nil _ _ _, fun _ => rfl, fun b hb => by simp [ob] at hb, Below.refl _ _⟩
  case round =>
    obtain ⟨i, V, rfl, rfl, hil, hrow, hv0, hob, hbl⟩ := hrel
    have HRW := Lib.hid hrow
    have HV0 := Lib.hid hv0
    have HOB := Lib.hid hob
    have HBL := Lib.hid hbl
    clear hrow hv0 hob hbl
    by_cases hlt : i < len
    · obtain ⟨b, off, rfl, hblt, hcell⟩ : ∃ b off, a = some ⟨b, off, none⟩ ∧ b < w.heap.size ∧ ∀ W, Below w.heap.size w W → ∀ j u, (es[i]'(by omega)).cells[j]? = some u → W.cell? ⟨b, off + i * 4 + j, none⟩ = some u := by
        rcases HE.out.2 with h0 | ⟨b, off, e, h1, h2⟩
        · omega
        · exact ⟨b, off, e, Nat.lt_of_lt_of_le h1 hn, fun W hW j u hu => (hW.cell (p := ⟨b, off + i * 4 + j, none⟩) (Nat.lt_of_lt_of_le h1 hn)).trans (h2 i (by omega) j u hu)⟩
      have hiI : (i : Int) < (len : Int) := by omega
      have hxk := HK.out (es[i]'(by omega)) (List.getElem_mem _)
      have HST := Lib.hid (rangeE_take lo hi es i (by omega))
      have hrl : (rangeE lo hi (es.take i)).length ≤ 100000 := by
        have := rangeE_le lo hi (es.take i)
        rw [List.length_take] at this
        omega
      generalize es[i]'(by omega) = x at *
      have q0 : wr.cell? ⟨b, off + i * 4, none⟩ = some (.string x.k) := hcell wr HBL.out 0 _ rfl
      have HCL := Lib.hid hcell
      have HBR := Lib.hid (show ∀ (w3 : World) (o2 : Obj), Below w.heap.size w w3 → Below w.heap.size w (w3.alloc o2) from fun w3 o2 hb => hb.alloc hb.size _)
      have HBa := Lib.hid (show (rangeE lo hi (es.take i)).length + 1 ≤ maxLen by unfold maxLen; omega)
      have HBb := Lib.hid (show ((rangeE lo hi (es.take i)).length + 1) * 48 ≤ 140737488355328 by omega)
      have C1 := Lib.hid (fun W => lessB_any x.k lo W hxk h1)
      have C2 := Lib.hid (fun W => lessB_any x.k hi W hxk h2)
      clear hcell
      unfold inRange at HST
      generalize rangeE lo hi (es.take i) = L at *
      cases e1 : lessB x.k lo with
      | true =>
        rw [e1] at C1 HST
        go_wp2_with (first | (go_at_call 87; (with_reducible refine (C1.out _).mono ?_); rintro e w3 ⟨rfl, hb3⟩) | fail)
        go_roundw
        case rel =>
          have e : rangeE lo hi (es.take (i + 1)) = L := by rw [HST.out]; simp
          have hb := HBL.out.trans (hb3.mono HBL.out.size)
          refine ⟨i + 1, V, rfl, by go_num, by omega, ?_, ?_, HOB.out, hb⟩
          · rw [e]
            exact row_below HRW.out hb3
          · rw [e]
            exact HV0.out
        case measure => simp [intOf]; omega
      | false =>
        rw [e1] at C1 HST
        cases e2 : hi.toList.isEmpty with
        | true =>
          rw [e2] at HST
          go_wp2_with (first | (go_at_call 87; (with_reducible refine (C1.out _).mono ?_); rintro e w3 ⟨rfl, hb3⟩; have HBW := Lib.hid (HBL.out.trans (hb3.mono HBL.out.size)); have q10 : w3.cell? ⟨b, off + i * 4, none⟩ = some (.string x.k) := HCL.out _ HBW.out 0 _ rfl; have q11 : w3.cell? ⟨b, off + i * 4 + 1, none⟩ = some (.int .u64 x.s) := HCL.out _ HBW.out 1 _ rfl; have q12 : w3.cell? ⟨b, off + i * 4 + 2, none⟩ = some (.int .i64 x.n) := HCL.out _ HBW.out 2 _ rfl; have q13 : w3.cell? ⟨b, off + i * 4 + 3, none⟩ = some (.string x.v) := HCL.out _ HBW.out 3 _ rfl; have HBX := Lib.hid (bt7 hb3 ((Below.refl w3.heap.size w3).alloc (Nat.le_refl _) (.cells #[.string x.k, .int .u64 x.s, .int .i64 x.n, .string x.v] 52)))) | (at_builtin; refine wpList_append_row _ rfl _ _ 22 22 rfl 52 i0 _ 4 48 Tryz.underlying22 hi0 hz0 hzs hzb rfl V _ _ rfl (row_below HRW.out HBX.out) _ rfl 1 _ (src_new x _) HBa.out HBb.out ?_; intro v' w5 hrow5 hgrow5 hob5) | fail)
          have hB4 := HBW.out.trans ((Below.refl w3.heap.size w3).alloc (Nat.le_refl _) (.cells #[.string x.k, .int .u64 x.s, .int .i64 x.n, .string x.v] 52) |>.mono HBW.out.size)
          have hB5 : Below w.heap.size w w5 := hB4.trans ((turn_of_grown (F := (ob V).toList) hgrow5 (fun k hk => .inl (by simp [hk]))).below hB4.size (fun k hk => HOB.out k (by simpa using hk)))
          have e : rangeE lo hi (es.take (i + 1)) = L ++ [x] := by rw [HST.out]; simp
          go_roundw
          case rel =>
            refine ⟨i + 1, v', rfl, by go_num, by omega, ?_, ?_, fun b hb => ?_, hB5⟩
            · rw [e, List.length_append, cellsE_append]
              exact hrow5
            · rw [e]
              simp
            · rcases hob5 with e | ⟨e, -⟩
              · exact HOB.out b (by rw [← e]; exact hb)
              · rw [e] at hb
                cases hb
                exact hB4.size
          case measure => simp [intOf]; omega
        | false =>
          rw [e2] at HST
          cases e3 : lessB x.k hi with
          | true =>
            rw [e3] at C2 HST
            go_wp2_with (first | (go_at_call 87; (with_reducible refine (C1.out _).mono ?_); rintro e w3 ⟨rfl, hb3⟩; have q9 : w3.cell? ⟨b, off + i * 4, none⟩ = some (.string x.k) := HCL.out _ (HBL.out.trans (hb3.mono HBL.out.size)) 0 _ rfl) | (go_at_call 87; (with_reducible refine (C2.out _).mono ?_); rintro e w4 ⟨rfl, hb4⟩; have HBW := Lib.hid ((HBL.out.trans (hb3.mono HBL.out.size)).trans (hb4.mono (Nat.le_trans HBL.out.size hb3.size))); have q10 : w4.cell? ⟨b, off + i * 4, none⟩ = some (.string x.k) := HCL.out _ HBW.out 0 _ rfl; have q11 : w4.cell? ⟨b, off + i * 4 + 1, none⟩ = some (.int .u64 x.s) := HCL.out _ HBW.out 1 _ rfl; have q12 : w4.cell? ⟨b, off + i * 4 + 2, none⟩ = some (.int .i64 x.n) := HCL.out _ HBW.out 2 _ rfl; have q13 : w4.cell? ⟨b, off + i * 4 + 3, none⟩ = some (.string x.v) := HCL.out _ HBW.out 3 _ rfl; have HBX := Lib.hid (bt7 (bt7 hb3 hb4) ((Below.refl w4.heap.size w4).alloc (Nat.le_refl _) (.cells #[.string x.k, .int .u64 x.s, .int .i64 x.n, .string x.v] 52)))) | (at_builtin; refine wpList_append_row _ rfl _ _ 22 22 rfl 52 i0 _ 4 48 Tryz.underlying22 hi0 hz0 hzs hzb rfl V _ _ rfl (row_below HRW.out HBX.out) _ rfl 1 _ (src_new x _) HBa.out HBb.out ?_; intro v' w5 hrow5 hgrow5 hob5) | fail)
            have hB4 := HBW.out.trans ((Below.refl w4.heap.size w4).alloc (Nat.le_refl _) (.cells #[.string x.k, .int .u64 x.s, .int .i64 x.n, .string x.v] 52) |>.mono HBW.out.size)
            have hB5 : Below w.heap.size w w5 := hB4.trans ((turn_of_grown (F := (ob V).toList) hgrow5 (fun k hk => .inl (by simp [hk]))).below hB4.size (fun k hk => HOB.out k (by simpa using hk)))
            have e : rangeE lo hi (es.take (i + 1)) = L ++ [x] := by rw [HST.out]; simp
            go_roundw
            case rel =>
              refine ⟨i + 1, v', rfl, by go_num, by omega, ?_, ?_, fun b hb => ?_, hB5⟩
              · rw [e, List.length_append, cellsE_append]
                exact hrow5
              · rw [e]
                simp
              · rcases hob5 with e | ⟨e, -⟩
                · exact HOB.out b (by rw [← e]; exact hb)
                · rw [e] at hb
                  cases hb
                  exact hB4.size
            case measure => simp [intOf]; omega
          | false =>
            rw [e3] at C2 HST
            go_wp2_with (first | (go_at_call 87; (with_reducible refine (C1.out _).mono ?_); rintro e w3 ⟨rfl, hb3⟩; have q9 : w3.cell? ⟨b, off + i * 4, none⟩ = some (.string x.k) := HCL.out _ (HBL.out.trans (hb3.mono HBL.out.size)) 0 _ rfl) | (go_at_call 87; (with_reducible refine (C2.out _).mono ?_); rintro e w4 ⟨rfl, hb4⟩) | fail)
            go_roundw
            case rel =>
              have e : rangeE lo hi (es.take (i + 1)) = L := by rw [HST.out]; simp
              have hb := HBL.out.trans ((bt7 hb3 hb4).mono HBL.out.size)
              refine ⟨i + 1, V, rfl, by go_num, by omega, ?_, ?_, HOB.out, hb⟩
              · rw [e]
                exact row_below HRW.out (bt7 hb3 hb4)
              · rw [e]
                exact HV0.out
            case measure => simp [intOf]; omega
    · obtain rfl : i = len := by omega
      have HT := Lib.hid (show es.take i = es from List.take_of_length_le (by omega))
      go_wp2
      go_ret
      rw [HT.out] at HRW HV0
      exact ⟨V, rfl, HRW.out, HV0.out, HOB.out, HBL.out⟩
end Go.Proofs.YthaalhigmihijacGreat
