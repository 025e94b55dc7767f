/- The document's own Path. -/
import Derived.Test.YthaalhigmihijaaGreatYH
namespace Go.Proofs.YthaalhigmihijaaGreat
open Go.RowKit

/-- A version and its level. -/
structure Tw where
  e : Ent
  l : Nat
def Tw.cells (t : Tw) : List Value := [.string t.e.k, .int .u64 t.e.s, .int .i64 t.e.n, .string t.e.v, .int .i64 (t.l : Int)]
def cellsT (l : List Tw) : List Value := l.flatMap Tw.cells
theorem cellsT_append (a b : List Tw) : cellsT (a ++ b) = cellsT a ++ cellsT b := by simp [cellsT]
theorem cellsT_get : ∀ (l : List Tw) (i : Nat) (h : i < l.length) (j : Nat) (u : Value), l[i].cells[j]? = some u → (cellsT l)[i * 5 + j]? = some u
  | [], _, h, _, _, _ => by cases h
  | x :: l, i, h, j, u, hu => by
    have hc : cellsT (x :: l) = x.cells ++ cellsT l := by simp [cellsT]
    have hl : x.cells.length = 5 := rfl
    rw [hc]
    match i, h, hu with
    | 0, _, hu =>
      have hu' : x.cells[j]? = some u := hu
      have hj := (List.getElem?_eq_some_iff.1 hu').1
      rw [Nat.zero_mul, Nat.zero_add, List.getElem?_append_left hj]
      exact hu'
    | i + 1, h, hu =>
      have ih := cellsT_get l i (by simpa using h) j u hu
      rw [List.getElem?_append_right (by rw [hl, Nat.add_mul]; omega), hl, show (i + 1) * 5 + j - 5 = i * 5 + j by rw [Nat.add_mul]; omega]
      exact ih
/-- A slice of them. -/
def TwsAt (n₀ : Nat) (w : World) (a : Option Addr) (len : Nat) (ts : List Tw) : Prop :=
  ts.length = len ∧ (len = 0 ∨ ∃ b off, a = some ⟨b, off, none⟩ ∧ b < n₀ ∧ ∀ i (h : i < ts.length), ∀ j u, ts[i].cells[j]? = some u → w.cell? ⟨b, off + i * 5 + j, none⟩ = some u)
theorem row_tws {w : World} {v : Value} {l : List Tw} (h : Row w 62 5 v l.length (cellsT l)) : ∃ a cap, v = .slice a l.length cap ∧ TwsAt w.heap.size w a l.length l := by
  have hc := h.cell
  obtain ⟨a, cap, hv, -, -⟩ := h.le
  refine ⟨a, cap, hv, rfl, ?_⟩
  rcases h.2 with ⟨h0, -⟩ | ⟨g, c, cur, hv', hg, -⟩
  · exact .inl h0
  · rw [hv] at hv'
    cases hv'
    refine .inr ⟨g, 0, rfl, (Array.getElem?_eq_some_iff.1 hg).1, fun i hi j u hu => ?_⟩
    have := hc g 0 _ hv (i * 5 + j) u (cellsT_get l i hi j u hu)
    rw [← Nat.add_assoc] at this
    exact this
def hgtT : List Tw → Nat
  | l => l.foldl (fun h t => max h t.l) 0
theorem hgtT_take (l : List Tw) (i : Nat) (h : i < l.length) : hgtT (l.take (i + 1)) = max (hgtT (l.take i)) l[i].l := by
  unfold hgtT
  rw [List.take_succ_eq_append_getElem h, List.foldl_append]
  rfl
def cntT (key : ByteArray) (v : Nat) (l : List Tw) : Nat := (l.filter fun t => decide (v ≤ t.l) && lessB t.e.k key).length
theorem cntT_take (key : ByteArray) (v : Nat) (l : List Tw) (i : Nat) (h : i < l.length) : cntT key v (l.take (i + 1)) = cntT key v (l.take i) + (if (decide (v ≤ l[i].l) && lessB l[i].e.k key) = true then 1 else 0) := by
  unfold cntT
  rw [List.take_succ_eq_append_getElem h, List.filter_append, List.length_append]
  congr 1
  by_cases hc : (decide (v ≤ l[i].l) && lessB l[i].e.k key) = true
  · rw [if_pos hc]
    simp only [List.filter_cons, hc, if_true]
    rfl
  · rw [if_neg hc]
    simp only [List.filter_cons, hc]
    rfl
theorem cntT_le (key : ByteArray) (v : Nat) (l : List Tw) : cntT key v l ≤ l.length := List.length_filter_le _ _
def pathT (key : ByteArray) (l : List Tw) (h k : Nat) : List Value := (List.range k).map fun j => Value.int .i64 ((cntT key (h - j) l : Nat) : Int)
theorem pathT_succ (key : ByteArray) (l : List Tw) (h k : Nat) : pathT key l h (k + 1) = pathT key l h k ++ [.int .i64 ((cntT key (h - k) l : Nat) : Int)] := by
  unfold pathT
  rw [List.range_succ, List.map_append]
  rfl
theorem hgtT_le {l : List Tw} {h : Nat} (hh : ∀ t ∈ l, t.l ≤ h) : hgtT l ≤ h := by
  unfold hgtT
  have : ∀ (l : List Tw) (a : Nat), a ≤ h → (∀ t ∈ l, t.l ≤ h) → l.foldl (fun h t => max h t.l) a ≤ h := by
    intro l
    induction l with
    | nil => intro a ha _; exact ha
    | cons t l ih =>
      intro a ha ht
      exact ih _ (by have := ht t (by simp); show max a t.l ≤ h; omega) (fun x hx => ht x (List.mem_cons_of_mem _ hx))
  exact this l 0 (Nat.zero_le _) hh
set_option maxHeartbeats 8000000 in
set_option maxRecDepth 100000 in
theorem path5_any {n₀ : Nat} (a : Option Addr) (len cap : Nat) (ts : List Tw) (key : ByteArray) (w : World) (hn : n₀ ≤ w.heap.size) (hE : TwsAt n₀ w a len ts) (hl : len ≤ 100000) (hlv : ∀ t ∈ ts, t.l ≤ 8) (hk : ∀ t ∈ ts, t.e.k.size ≤ 9223372036854775807) (hkey : key.size ≤ 9223372036854775807) :
    Calls Tryz.prog 22 #[.slice a len cap, .string key] w fun e w' => ∃ v, e = .returned v ∧ Row w' 3 1 v (hgtT ts) (pathT key ts (hgtT ts) (hgtT ts)) ∧ (∀ b, ob v = some b → w.heap.size ≤ b) ∧ Below w.heap.size w w' := by
  have hel := hE.1
  have HE := Lib.hid hE
  have HLV := Lib.hid hlv
  have HK := Lib.hid hk
  have HCE := Lib.hid (show ∀ W, Below w.heap.size w W → ∀ i (h : i < len), ∃ b off, a = some ⟨b, off, none⟩ ∧ ∀ j u, (ts[i]'(by omega)).cells[j]? = some u → W.cell? ⟨b, off + i * 5 + j, none⟩ = some u from fun W hW i h => by
    rcases hE.2 with h0 | ⟨b, off, e, h1, h2⟩
    · omega
    · exact ⟨b, off, e, fun j u hu => (hW.cell (p := ⟨b, off + i * 5 + j, none⟩) (Nat.lt_of_lt_of_le h1 hn)).trans (h2 i (by omega) j u hu)⟩)
  obtain ⟨i0, hi, hz0, hzs, hzb⟩ := info_parts infoI5
  clear hE hlv hk
  go_enter Tryz.func22, Tryz.ntmps22
  go_wp2
  go_loopw [5, 6] (fun hv iv wr => ∃ i : Nat, hv = .int .i64 ((hgtT (ts.take i) : Nat) : Int) ∧ iv = .int .i64 (i : Int) ∧ i ≤ len ∧ wr = w) (fun _ iv _ => len - (intOf iv).toNat)
  case atStart => exact ⟨0, rfl, rfl, Nat.zero_le _, rfl⟩
  case round =>
    obtain ⟨i, rfl, rfl, hil, rfl⟩ := hrel
    by_cases hlt : i < len
    · have hiI : (i : Int) < (len : Int) := by omega
      obtain ⟨b, off, rfl, hcell⟩ := HCE.out wr (Below.refl _ _) i hlt
      have HST := Lib.hid (hgtT_take ts i (by omega))
      generalize ts[i]'(by omega) = t at *
      generalize hgtT (ts.take i) = H at *
      have q4 : wr.cell? ⟨b, off + i * 5 + 4, none⟩ = some (.int .i64 (t.l : Int)) := hcell 4 _ rfl
      clear hcell
      go_wp2
      go_roundw
      case rel => exact ⟨i + 1, by rw [HST.out]; congr 1; omega, by go_num, by omega, (by first | rfl | trivial)⟩
      case measure => simp [intOf]; omega
    · obtain rfl : len = i := by omega
      have HT := Lib.hid (show ts.take len = ts from List.take_of_length_le (by omega))
      rw [HT.out]
      have hH8 : hgtT ts ≤ 8 := hgtT_le HLV.out
      obtain ⟨H, hH⟩ : ∃ H, H = hgtT ts := ⟨_, rfl⟩
      rw [← hH] at hH8 ⊢
      have HHH := Lib.hid hH
      clear hH
      obtain ⟨w0, rfl⟩ : ∃ w0, w0 = wr := ⟨_, rfl⟩
      go_wp2_with fail
      go_loopw [7, 8] (fun ov vv ws => ∃ (j : Nat) (V : Value) (x : Int), V = ov ∧ vv = .int .i64 x ∧ x = (H : Int) - (j : Int) ∧ j ≤ H ∧ Row ws 3 1 V j (pathT key ts H j) ∧ (∀ b, ob V = some b → w0.heap.size ≤ b) ∧ Below w0.heap.size w0 ws) (fun _ vv _ => (intOf vv).toNat)
      case atStart => exact ⟨0, _, _, rfl, rfl, by simp, Nat.zero_le _, row_nil _ _ _, fun b hb => by simp [ob] at hb, Below.refl _ _⟩
      case round =>
        obtain ⟨j, V, x, rfl, rfl, hx, hjH, hrow, hob, hbl⟩ := hrel
        have HX := Lib.hid hx
        have HRW := Lib.hid hrow
        have HOB := Lib.hid hob
        have HBL := Lib.hid hbl
        clear hx hrow hob hbl
        by_cases hlt2 : j < H
        · obtain ⟨v, hv⟩ : ∃ v : Nat, x = (v : Int) := ⟨H - j, by have := HX.out; omega⟩
          subst hv
          have HVE := Lib.hid (show H - j = v by have := HX.out; omega)
          have hv1 : 1 ≤ v := by have := HX.out; omega
          have dv : decide (1 ≤ (v : Int)) = true := by simp; omega
          have hv8 : v ≤ 8 := by have := HX.out; omega
          obtain ⟨w1, rfl⟩ : ∃ w1, w1 = wr := ⟨_, rfl⟩
          go_wp2_with fail
          go_loopw [9, 10] (fun nv iv ws => ∃ i : Nat, nv = .int .i64 ((cntT key v (ts.take i) : Nat) : Int) ∧ iv = .int .i64 (i : Int) ∧ i ≤ len ∧ Below w1.heap.size w1 ws) (fun _ iv _ => len - (intOf iv).toNat)
          case atStart => exact ⟨0, rfl, rfl, Nat.zero_le _, Below.refl _ _⟩
          case round =>
            obtain ⟨i, rfl, rfl, hil2, hb2⟩ := hrel
            have HB2 := Lib.hid hb2
            have HBW := Lib.hid (HBL.out.trans (hb2.mono HBL.out.size))
            clear hb2
            by_cases hlt3 : i < len
            · have hiI : (i : Int) < (len : Int) := by omega
              obtain ⟨b, off, rfl, hcell⟩ := HCE.out wr HBW.out i hlt3
              have HST := Lib.hid (cntT_take key v ts i (by omega))
              have hcl : cntT key v (ts.take i) ≤ 100000 := by
                have := cntT_le key v (ts.take i)
                rw [List.length_take] at this
                omega
              have hxk := HK.out (ts[i]'(by omega)) (List.getElem_mem _)
              generalize ts[i]'(by omega) = t at *
              generalize cntT key v (ts.take i) = N at *
              have q0 : wr.cell? ⟨b, off + i * 5, none⟩ = some (.string t.e.k) := hcell 0 _ rfl
              have q4 : wr.cell? ⟨b, off + i * 5 + 4, none⟩ = some (.int .i64 (t.l : Int)) := hcell 4 _ rfl
              have C1 := Lib.hid (fun W => lessB_any t.e.k key W hxk hkey)
              clear hcell
              by_cases hvl : v ≤ t.l
              · have e1 : decide (v ≤ t.l) = true := decide_eq_true hvl
                have e1' : decide ((v : Int) ≤ (t.l : Int)) = true := by simp; omega
                rw [e1] at HST
                cases e2 : lessB t.e.k key with
                | true =>
                  rw [e2] at C1 HST
                  go_wp2_with (first | (go_at_call 33; (with_reducible refine (C1.out _).mono ?_); rintro e w3 ⟨rfl, hb3⟩) | fail)
                  go_roundw
                  case rel => exact ⟨i + 1, by rw [HST.out]; simp, by go_num, by omega, HB2.out.trans (hb3.mono HB2.out.size)⟩
                  case measure => simp [intOf]; omega
                | false =>
                  rw [e2] at C1 HST
                  go_wp2_with (first | (go_at_call 33; (with_reducible refine (C1.out _).mono ?_); rintro e w3 ⟨rfl, hb3⟩) | fail)
                  go_roundw
                  case rel => exact ⟨i + 1, by rw [HST.out]; simp, by go_num, by omega, HB2.out.trans (hb3.mono HB2.out.size)⟩
                  case measure => simp [intOf]; omega
              · have e1 : decide (v ≤ t.l) = false := decide_eq_false hvl
                have e1' : decide ((v : Int) ≤ (t.l : Int)) = false := by simp; omega
                rw [e1] at HST
                go_wp2
                go_roundw
                case rel => exact ⟨i + 1, by rw [HST.out]; simp, by go_num, by omega, HB2.out⟩
                case measure => simp [intOf]; omega
            · obtain rfl : len = i := by omega
              rw [HT.out]
              have hcl : cntT key v ts ≤ 100000 := by
                have := cntT_le key v ts
                omega
              have HBa := Lib.hid (show j + 1 ≤ maxLen by unfold maxLen; omega)
              have HBb := Lib.hid (show (j + 1) * 8 ≤ 140737488355328 by omega)
              have HSrc := Lib.hid (show ∀ w3 : World, Src Tryz.prog 1 23 (.slice (some ⟨w3.heap.size, 0, none⟩) 1 1) 1 [.int .i64 ((cntT key v ts : Nat) : Int)] (w3.alloc (.cells #[.int .i64 ((cntT key v ts : Nat) : Int)] 3)) from fun w3 => Src.ofSlice (P := Tryz.prog) _ (size := 1) Tryz.underlying23 ⟨w3.heap.size, 0, none⟩ 1 1 _ rfl (fun t u hu => by
                match t, hu with
                | 0, hu => simpa [Addr.add] using hu) (by simp [Value.oneCell']))
              have HRX := Lib.hid (show ∀ o : Obj, Row (wr.alloc o) 3 1 V j (pathT key ts H j) from fun o => row_below HRW.out (bt7 HB2.out ((Below.refl _ _).alloc (Nat.le_refl _) o)))
              go_wp2_with (first
                | (at_builtin; refine wpList_append_row _ rfl _ _ 23 23 rfl 3 i0 _ 1 8 Tryz.underlying23 hi hz0 hzs hzb rfl V _ _ rfl (HRX.out _) _ rfl 1 _ (HSrc.out _) HBa.out HBb.out ?_; intro v' w5 hrow5 hgrow5 hob5)
                | fail)
              have hB4 := HBW.out.trans ((Below.refl wr.heap.size wr).alloc (Nat.le_refl _) (.cells #[.int .i64 ((cntT key v ts : Nat) : Int)] 3) |>.mono HBW.out.size)
              have hB5 : Below w0.heap.size w0 w5 := hB4.trans ((turn_of_grown (F := (ob V).toList) hgrow5 (fun k hk => .inl (by simp [hk]))).below hB4.size (fun k hk => HOB.out k (by simpa using hk)))
              have hxx := HX.out
              go_roundw
              case rel =>
                refine ⟨j + 1, v', (v : Int) - 1, rfl, by go_num, by omega, by omega, ?_, fun b hb => ?_, hB5⟩
                · rw [pathT_succ, HVE.out]
                  exact hrow5
                · rcases hob5 with e | ⟨e, -⟩
                  · exact HOB.out b (by rw [← e]; exact hb)
                  · rw [e] at hb
                    cases hb
                    exact hB4.size
              case measure => simp [intOf]; omega
        · obtain rfl : x = 0 := by have := HX.out; omega
          have dv : decide (1 ≤ (0 : Int)) = false := by decide
          obtain rfl : H = j := by omega
          go_wp2
          go_ret
          refine ⟨V, rfl, ?_, HOB.out, HBL.out⟩
          rw [← HHH.out]
          exact HRW.out
end Go.Proofs.YthaalhigmihijaaGreat
