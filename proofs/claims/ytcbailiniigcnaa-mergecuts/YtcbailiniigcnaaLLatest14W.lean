/- MergeLatest, walked, over what the calls are asked to tell. -/
import Derived.Test.YtcbailiniigcnaaVB14
import Derived.Laws.StructEq
import Derived.Deep.CutRange
namespace Go.Proofs.Ytcbailiniigcnaa
open Go.ChangeShapes Go.WideShapes Go.ChangeAt Go.Deep Go.RowKit

theorem ord_pair {l : List Ent} (h : Ord l) : l.Pairwise ltE := by
  rw [List.pairwise_iff_getElem]
  intro i j hi hj hij
  have := h i j hij hj
  have g : ∀ (k : Nat) (hk : k < l.length), l.getD k Ent.zero = l[k] := fun k hk => by simp [List.getD, hk]
  rw [g i hi, g j hj] at this
  exact this
theorem less_cbM : ∀ a b : List UInt8, Op.bytesLess a b = decide (Lib.compareBytes a b = -1)
  | [], [] => rfl
  | [], _ :: _ => rfl
  | _ :: _, [] => rfl
  | a :: l, b :: r => by
    unfold Op.bytesLess Lib.compareBytes
    by_cases h1 : a < b
    · simp [h1]
    · by_cases h2 : b < a
      · have h3 : ¬ a = b := fun e => by subst e; exact h1 h2
        simp [h1, h2, h3]
      · have h3 : a = b := UInt8.le_antisymm (UInt8.not_lt.1 h2) (UInt8.not_lt.1 h1)
        rw [less_cbM l r]
        simp [h3]
theorem leq_no {p x : ByteArray} (h : Lib.compareBytes p.data.toList x.data.toList = -1) : (Op.bytesLess x.toList p.toList || x.toList == p.toList) = false := by
  rw [ByteArray.toList_eq, ByteArray.toList_eq, less_cbM]
  have h1 := cb_swap p.data.toList x.data.toList
  rw [Bool.or_eq_false_iff]
  constructor
  · rw [decide_eq_false_iff_not]
    omega
  · rw [beq_eq_false_iff_ne]
    intro e
    rw [e, cb_refl] at h
    cases h
theorem eqQ (a b c d : ByteArray) (w : World) : (binOp .eql 37 (.agg #[.string a, .string b]) (.agg #[.string c, .string d])).run Try.prog w = .ok (.bool (decide ((a, b) = (c, d)))) w := by
  have hS : Try.prog.underlying 37 = some (.struct (Try.prog.fieldsOf 37)) := by kernel_rfl
  have hp : Try.prog.stoodInHeld 37 = false := by kernel_rfl
  rw [run_eql_struct, show (10000 : Nat) = 9999 + 1 from rfl, run_equalIn_agg w 9999 37 _ _ hS hp]
  simp only [Program.fieldsOf, Try.underlying37]
  go_simp
  have inj : ∀ x y : ByteArray, x.toList = y.toList ↔ x = y := fun x y => ⟨fun h => by rw [ByteArray.toList_eq, ByteArray.toList_eq] at h; exact bytes_ext h, fun h => by rw [h]⟩
  simp only [inj]
  by_cases h1 : a = c <;> by_cases h2 : b = d <;> simp [h1, h2]
set_option maxHeartbeats 8000000 in
set_option maxRecDepth 100000 in
theorem mergeLatest_walkC (CA : AllC) (CL : LatestC) (CT : CutC) {w : World} (l : Option Addr) (ln lc : Nat) (es : List Ent) (a b : Int) (hE : EntsAt w.heap.size w l ln es) (hlm : ln ≤ 9223372036854775807) (hcap : ln ≤ lc) (hok : ∀ x ∈ es, x.Ok) :
    Calls Try.prog 5 #[.slice l ln lc, .int .u64 a, .int .u64 b] w fun e w' => e = .returned (.bool true) ∧ Below w.heap.size w w' := by
  have HAL := Lib.hid (alive14 CA CL CT)
  have HCL := Lib.hid CL
  have C1 := Lib.hid (small_any l ln lc es hE hlm hok)
  have HCAP := Lib.hid (show es.length ≤ lc from hE.1.symm ▸ hcap)
  clear hcap
  have HE := Lib.hid hE
  have HOK := Lib.hid hok
  obtain rfl : es.length = ln := hE.1
  clear CA CL CT hE hok
  generalize hlb : w.heap.size = lb at *
  have hle : lb ≤ w.heap.size := Nat.le_of_eq hlb.symm
  go_enter Try.func5, Try.ntmps5
  go_wp2_with fail
  go_at_call 6
  refine C1.out.mono ?_
  rintro _ w1 ⟨t, rfl, ht, b1⟩
  clear C1
  have HE1 := Lib.hid (show EntsAt w1.heap.size w1 l es.length es from (HE.out.below (hlb ▸ b1)).mono (by have := b1.size; omega))
  have HW1 := Lib.hid (show Below lb w w1 from hlb ▸ b1)
  cases t with
  | false =>
    clear ht
    go_wp2_with fail
    go_at_call 8
    refine (HAL.out _).mono ?_
    rintro _ w2 ⟨rfl, b2⟩
    go_wp2_with fail
    go_ret
    exact ⟨rfl, below_on HW1.out hle b2⟩
  | true =>
  obtain ⟨hl150, hsh⟩ := ht rfl
  have HSH := Lib.hid hsh
  clear hsh
  clear ht b1
  have C2 := Lib.hid (ordered_any (w := w1) l es.length lc es HE1.out (by omega) HOK.out)
  go_wp2_with fail
  go_at_call 7
  refine C2.out.mono ?_
  rintro _ w2 ⟨t, rfl, ht, b2⟩
  clear C2
  have HW2 := Lib.hid (below_on HW1.out hle b2)
  have HE2 := Lib.hid (show EntsAt w2.heap.size w2 l es.length es from (HE1.out.below b2).mono b2.size)
  cases t with
  | false =>
    clear ht
    go_wp2_with fail
    go_at_call 8
    refine (HAL.out _).mono ?_
    rintro _ w3 ⟨rfl, b3⟩
    go_wp2_with fail
    go_ret
    exact ⟨rfl, below_on HW2.out hle b3⟩
  | true =>
  have hs := ord_pair (ht rfl)
  have HS := Lib.hid hs
  clear ht b2 HE HE1 HW1
  by_cases hab : b < a
  · go_wp2_with fail
    go_at_call 8
    refine (HAL.out _).mono ?_
    rintro _ w3 ⟨rfl, b3⟩
    go_wp2_with fail
    go_ret
    exact ⟨rfl, below_on HW2.out hle b3⟩
  have hab' : a ≤ b := by omega
  have HAB := Lib.hid hab'
  clear hab'
  have HSL := Lib.hid (show SortedL [es] from fun l hl => by
    rw [List.mem_singleton] at hl
    subst hl
    exact ⟨HS.out, fun x hx => ⟨HOK.out x hx, HSH.out x hx⟩⟩)
  have HFL := Lib.hid (show allE [es].flatten = es by rw [flat_one]; exact allE_of_sorted HS.out)
  have CQ := Lib.hid (fun (W : World) (seq : Int) (hw : EntsAt W.heap.size W l es.length es) => by
    have h := HCL.out seq (some ⟨W.heap.size, 0, none⟩) 1 1 [es] (W.alloc (.cells #[.slice l es.length lc] 22)) (lsAt_one hw HCAP.out rfl) (by omega) (by rw [flat_one]; omega) HSL.out
    rw [HFL.out] at h
    exact h)
  clear hs HSL HFL
  go_wp2_with fail
  go_at_call 12
  refine (CQ.out w2 a HE2.out).mono ?_
  rintro _ w3 ⟨v3, rfl, n3, b3⟩
  obtain ⟨ax, cx, rfl, h3⟩ := row_q n3.row
  have hQ3 : QsAt w3 ax (latE a es) := h3
  have b3' := (below_alloc (w := w2) rfl).trans (b3.mono (below_alloc (w := w2) rfl).size)
  have HW3 := Lib.hid (below_on HW2.out hle b3')
  have HE3 := Lib.hid (show EntsAt w3.heap.size w3 l es.length es from (HE2.out.below b3').mono b3'.size)
  clear n3 h3 b3 b3' HE2 HW2
  go_wp2_with fail
  go_at_call 12
  refine (CQ.out w3 b HE3.out).mono ?_
  rintro _ w4 ⟨v4, rfl, n4, b4⟩
  obtain ⟨ay, cy, rfl, h4⟩ := row_q n4.row
  have hQ4 : QsAt w4 ay (latE b es) := h4
  have b4' := (below_alloc (w := w3) rfl).trans (b4.mono (below_alloc (w := w3) rfl).size)
  have HW4 := Lib.hid (below_on HW3.out hle b4')
  have HE4 := Lib.hid (show EntsAt w4.heap.size w4 l es.length es from (HE3.out.below b4').mono b4'.size)
  have HX := Lib.hid (hQ3.below b4')
  have HY := Lib.hid hQ4
  clear n4 h4 b4 b4' HE3 hQ3 hQ4 HW3
  have HST := Lib.hid (show ∀ (i : Nat) (u v : ByteArray × ByteArray), 0 < i → (latE a es)[i - 1]? = some u → (latE a es)[i]? = some v → Lib.compareBytes u.1.data.toList v.1.data.toList = -1 from fun i u v h0 hu hv => by
    obtain ⟨h1, rfl⟩ := List.getElem?_eq_some_iff.1 hu
    obtain ⟨h2, rfl⟩ := List.getElem?_eq_some_iff.1 hv
    exact latE_step (seq := a) HS.out h0 h2)
  have HTW := Lib.hid (fun q hq hn => latE_two (q := q) HS.out HAB.out hq hn)
  have hxl : (latE a es).length ≤ 150 := Nat.le_trans (latE_length a es) hl150
  have hyl : (latE b es).length ≤ 150 := Nat.le_trans (latE_length b es) hl150
  generalize latE a es = X at *
  generalize latE b es = Y at *
  go_wp2_with fail
  go_loopw [9, 10, 11, 12, 13] (fun iv _ _ _ _ wr => ∃ i : Nat, iv = .int .i64 (i : Int) ∧ i ≤ X.length ∧ Hid (Below w4.heap.size w4 wr)) (fun iv _ _ _ _ _ => X.length - (intOf iv).toNat)
  case atStart => exact ⟨0, rfl, Nat.zero_le _, Lib.hid (Below.refl _ _)⟩
  case round =>
    obtain ⟨i, rfl, hi, HB⟩ := hrel
    by_cases hlt : i < X.length
    · obtain ⟨gx, rfl, hgx, hcx⟩ : ∃ g, ax = some ⟨g, 0, none⟩ ∧ g < w4.heap.size ∧ ∀ k (h : k < X.length), w4.cell? ⟨g, k * 2, none⟩ = some (.string X[k].1) ∧ w4.cell? ⟨g, k * 2 + 1, none⟩ = some (.string X[k].2) := by
        rcases HX.out with h | h
        · rw [h] at hlt; cases hlt
        · exact h
      obtain ⟨xk, xv, hxe⟩ : ∃ k v, X[i]? = some (k, v) := ⟨_, _, List.getElem?_eq_getElem hlt⟩
      have hcxi : w4.cell? ⟨gx, i * 2, none⟩ = some (.string xk) ∧ w4.cell? ⟨gx, i * 2 + 1, none⟩ = some (.string xv) := by
        obtain ⟨h1, h2⟩ := List.getElem?_eq_some_iff.1 hxe
        have := hcx i h1
        rw [h2] at this
        exact this
      have HCI := Lib.hid hcxi
      have HXE := Lib.hid hxe
      have hli : (i : Int) < (X.length : Int) := by omega
      obtain ⟨wo, hwo⟩ : ∃ wo, wo = wr := ⟨wr, rfl⟩
      subst hwo
      go_wp2_with fail
      go_cut [57] from 36 to 119 (fun tv wx => tv = .bool false ∧ Below wo.heap.size wo wx)
      case first =>
        have c0 : wo.cell? ⟨gx, i * 2, none⟩ = some (.string xk) := (HB.out.cell (p := ⟨gx, _, none⟩) hgx).trans HCI.out.1
        by_cases h0 : 0 < i
        · obtain ⟨m, hm⟩ : ∃ m, m = i - 1 := ⟨_, rfl⟩
          have hml : m < X.length := by omega
          obtain ⟨pk, pv, hpe⟩ : ∃ k v, X[m]? = some (k, v) := ⟨_, _, List.getElem?_eq_getElem hml⟩
          have c1 : wo.cell? ⟨gx, m * 2, none⟩ = some (.string pk) := by
            obtain ⟨h1, h2⟩ := List.getElem?_eq_some_iff.1 hpe
            have := (hcx m h1).1
            rw [h2] at this
            exact (HB.out.cell (p := ⟨gx, _, none⟩) hgx).trans this
          have hleq := leq_no (HST.out i (pk, pv) (xk, xv) h0 (by rw [← hm]; exact hpe) HXE.out)
          have hd0 : decide ((0 : Int) < (i : Int)) = true := by simp; omega
          have hi0 : (0 : Int) < (i : Int) := by omega
          have hij : (i : Int) - 1 = (m : Int) := by omega
          have hwi : IntKind.i64.wrap ((i : Int) - 1) = (m : Int) := by rw [IntKind.wrap_i64]; omega
          have hmi : (m : Int) < (X.length : Int) := by omega
          clear hm hpe
          go_wp2_with fail
          go_quiet (fail)
          go_wp2_with fail
          go_meet
          exact ⟨rfl, belowN (Below.refl _ _) _⟩
        · have hd0 : decide ((0 : Int) < (i : Int)) = false := by simp; omega
          go_wp2_with fail
          go_quiet (fail)
          go_wp2_with fail
          go_meet
          exact ⟨rfl, belowN (Below.refl _ _) _⟩
      case rest =>
        obtain ⟨rfl, hb2⟩ := hcut
        have HBc := Lib.hid (HB.out.trans (hb2.mono HB.out.size))
        clear hb2 hcx
        go_wp2_with fail
        go_loopw [10, 11] (fun tv kv wr => ∃ (k : Nat) (t : Bool), tv = .bool t ∧ kv = .int .i64 (k : Int) ∧ k ≤ Y.length ∧ Hid ((xk, xv) ∈ Y.take k → t = true) ∧ Hid (Below w4.heap.size w4 wr)) (fun _ kv _ => Y.length - (intOf kv).toNat)
        case atStart => exact ⟨0, false, rfl, rfl, Nat.zero_le _, Lib.hid (fun h => by simp at h), HBc⟩
        case round =>
          obtain ⟨k, t, rfl, rfl, hk, HT, HB2⟩ := hrel
          by_cases hkl : k < Y.length
          · obtain ⟨gy, rfl, hgy, hcy⟩ : ∃ g, ay = some ⟨g, 0, none⟩ ∧ g < w4.heap.size ∧ ∀ k (h : k < Y.length), w4.cell? ⟨g, k * 2, none⟩ = some (.string Y[k].1) ∧ w4.cell? ⟨g, k * 2 + 1, none⟩ = some (.string Y[k].2) := by
              rcases HY.out with h | h
              · rw [h] at hkl; cases hkl
              · exact h
            have htk : Y.take (k + 1) = Y.take k ++ [Y[k]] := by
              rw [List.take_add_one, List.getElem?_eq_getElem hkl]
              rfl
            obtain ⟨d1, d2⟩ := hcy k hkl
            generalize Y[k] = y at htk d1 d2
            obtain ⟨yk, yv⟩ := y
            have HTK := Lib.hid htk
            have c0 : wr.cell? ⟨gx, i * 2, none⟩ = some (.string xk) := (HB2.out.cell (p := ⟨gx, _, none⟩) hgx).trans HCI.out.1
            have c1 : wr.cell? ⟨gx, i * 2 + 1, none⟩ = some (.string xv) := (HB2.out.cell (p := ⟨gx, _, none⟩) hgx).trans HCI.out.2
            have e0 : wr.cell? ⟨gy, k * 2, none⟩ = some (.string yk) := (HB2.out.cell (p := ⟨gy, _, none⟩) hgy).trans d1
            have e1 : wr.cell? ⟨gy, k * 2 + 1, none⟩ = some (.string yv) := (HB2.out.cell (p := ⟨gy, _, none⟩) hgy).trans d2
            have hki : (k : Int) < (Y.length : Int) := by omega
            have hEQ := eqQ yk yv xk xv
            have hED : decide ((yk, yv) = (xk, xv)) = false → (xk, xv) ≠ (yk, yv) := fun h e => by
              rw [e] at h
              simp at h
            have HED := Lib.hid hED
            clear hED
            generalize decide ((yk, yv) = (xk, xv)) = T at hEQ HED
            clear htk d1 d2 hcy
            have HNX := Lib.hid (show ∀ (t' : Bool), (t' = (t || T)) → ((xk, xv) ∈ Y.take (k + 1) → t' = true) from fun t' ht' hm => by
              rw [HTK.out, List.mem_append, List.mem_singleton] at hm
              rcases hm with hm | hm
              · rw [ht', HT.out hm]; rfl
              · cases T with
                | true => rw [ht']; cases t <;> rfl
                | false => exact absurd hm (HED.out rfl))
            cases t with
            | true =>
              go_wp2_with fail
              go_quiet (fail)
              go_wp2_with fail
              go_roundw
              case rel => exact ⟨k + 1, true, rfl, by go_num, hkl, Lib.hid (HNX.out _ rfl), Lib.hid (belowN HB2.out _)⟩
              case measure => simp [intOf]; omega
            | false =>
              go_wp2_with fail
              go_quiet (fail)
              go_wp2_with fail
              go_roundw
              case rel => exact ⟨k + 1, T, rfl, by go_num, hkl, Lib.hid (HNX.out _ rfl), Lib.hid (belowN HB2.out _)⟩
              case measure => simp [intOf]; omega
          · obtain rfl : k = Y.length := by omega
            have HTT := Lib.hid (show (xk, xv) ∈ Y → t = true from fun h => HT.out (by rw [List.take_length]; exact h))
            clear HT
            go_wp2_with fail
            go_loopw [12, 13] (fun cv mv wr => ∃ (m : Nat) (c : Bool), cv = .bool c ∧ mv = .int .i64 (m : Int) ∧ m ≤ es.length ∧ Hid ((∃ e ∈ es.take m, e.k = xk ∧ a < e.s ∧ e.s ≤ b) → c = true) ∧ Hid (Below w4.heap.size w4 wr)) (fun _ mv _ => es.length - (intOf mv).toNat)
            case atStart => exact ⟨0, false, rfl, rfl, Nat.zero_le _, Lib.hid (fun h => by simp at h), HB2⟩
            case round =>
              obtain ⟨m, c, rfl, rfl, hm, HC, HB3⟩ := hrel
              by_cases hml : m < es.length
              · obtain ⟨be, oe, rfl, hbe, hce⟩ : ∃ be oe, l = some ⟨be, oe, none⟩ ∧ be < w4.heap.size ∧ ∀ j u, (es[m]'hml).cells[j]? = some u → w4.cell? ⟨be, oe + m * 4 + j, none⟩ = some u := by
                  rcases HE4.out.2 with h | ⟨be, oe, h1, h2, h3⟩
                  · omega
                  · exact ⟨be, oe, h1, h2, h3 m hml⟩
                have HTK := Lib.hid (ent_take es m hml)
                generalize es[m] = y at hce HTK
                obtain ⟨yk, ys, yn, yv⟩ := y
                have e0 : wr.cell? ⟨be, oe + m * 4, none⟩ = some (.string yk) := (HB3.out.cell (p := ⟨be, _, none⟩) hbe).trans (hce 0 _ rfl)
                have e1 : wr.cell? ⟨be, oe + m * 4 + 1, none⟩ = some (.int .u64 ys) := (HB3.out.cell (p := ⟨be, _, none⟩) hbe).trans (hce 1 _ rfl)
                have c0 : wr.cell? ⟨gx, i * 2, none⟩ = some (.string xk) := (HB3.out.cell (p := ⟨gx, _, none⟩) hgx).trans HCI.out.1
                have hmi : (m : Int) < (es.length : Int) := by omega
                obtain ⟨E1, hE1⟩ : ∃ E, (yk.toList == xk.toList) = E := ⟨_, rfl⟩
                obtain ⟨E2, hE2⟩ : ∃ E, decide (a < ys) = E := ⟨_, rfl⟩
                obtain ⟨E3, hE3⟩ : ∃ E, decide (ys ≤ b) = E := ⟨_, rfl⟩
                have HNX := Lib.hid (show ∀ c' : Bool, c' = (c || (E1 && E2 && E3)) → (∃ e ∈ es.take (m + 1), e.k = xk ∧ a < e.s ∧ e.s ≤ b) → c' = true from fun c' hc' ⟨e, he, h1, h2, h3⟩ => by
                  rw [HTK.out, List.mem_append, List.mem_singleton] at he
                  rcases he with he | rfl
                  · rw [hc', HC.out ⟨e, he, h1, h2, h3⟩]; rfl
                  · simp only at h1 h2 h3
                    rw [hc', ← hE1, ← hE2, ← hE3, h1, decide_eq_true h2, decide_eq_true h3]
                    simp)
                clear hce HTK
                cases c with
                | true =>
                  clear hE1 hE2 hE3
                  go_wp2_with fail
                  go_quiet (fail)
                  go_wp2_with fail
                  go_roundw
                  case rel => exact ⟨m + 1, true, rfl, by go_num, hml, Lib.hid (HNX.out _ (by first | rfl | simp)), Lib.hid (belowN HB3.out _)⟩
                  case measure => simp [intOf]; omega
                | false =>
                  cases E1 with
                  | false =>
                    clear hE2 hE3
                    go_wp2_with fail
                    go_quiet (fail)
                    go_wp2_with fail
                    go_roundw
                    case rel => exact ⟨m + 1, false, rfl, by go_num, hml, Lib.hid (HNX.out _ (by first | rfl | simp)), Lib.hid (belowN HB3.out _)⟩
                    case measure => simp [intOf]; omega
                  | true =>
                    cases E2 with
                    | false =>
                      clear hE3
                      go_wp2_with fail
                      go_quiet (fail)
                      go_wp2_with fail
                      go_roundw
                      case rel => exact ⟨m + 1, false, rfl, by go_num, hml, Lib.hid (HNX.out _ (by first | rfl | simp)), Lib.hid (belowN HB3.out _)⟩
                      case measure => simp [intOf]; omega
                    | true =>
                      go_wp2_with fail
                      go_quiet (fail)
                      go_wp2_with fail
                      go_roundw
                      case rel => exact ⟨m + 1, E3, rfl, by go_num, hml, Lib.hid (HNX.out _ (by first | rfl | simp)), Lib.hid (belowN HB3.out _)⟩
                      case measure => simp [intOf]; omega
              · obtain rfl : m = es.length := by omega
                have hfin : t = false → c = true := fun ht => by
                  by_cases hc : c = true
                  · exact hc
                  · exfalso
                    have h1 : (xk, xv) ∈ Y := HTW.out (xk, xv) (List.mem_of_getElem? HXE.out) fun e he hne => hc (HC.out ⟨e, by rw [List.take_length]; exact he, hne⟩)
                    rw [HTT.out h1] at ht
                    cases ht
                have HF := Lib.hid hfin
                clear hfin HC
                cases t with
                | true =>
                  go_wp2_with fail
                  go_roundw
                  case rel => exact ⟨i + 1, by go_num, hlt, HB3⟩
                  case measure => simp [intOf]; omega
                | false =>
                  have hc := HF.out rfl
                  subst hc
                  go_wp2_with fail
                  go_roundw
                  case rel => exact ⟨i + 1, by go_num, hlt, HB3⟩
                  case measure => simp [intOf]; omega
    · obtain rfl : i = X.length := by omega
      have C5 := Lib.hid (fun (W : World) (hw : Below w4.heap.size w4 W) => CQ.out W 0 ((HE4.out.below hw).mono hw.size))
      have HL0 := Lib.hid (show (latE 0 es).length ≤ es.length from latE_length 0 es)
      go_wp2_with fail
      go_at_call 8
      refine (HAL.out _).mono ?_
      rintro _ w5 ⟨rfl, b5⟩
      have HB5 := Lib.hid (show Below w4.heap.size w4 w5 from HB.out.trans (b5.mono HB.out.size))
      go_wp2_with fail
      go_at_call 12
      refine (C5.out w5 HB5.out).mono ?_
      rintro _ w6 ⟨v6, rfl, n6, b6⟩
      obtain ⟨a6, c6, h7, -, -⟩ := n6.row.le
      have h8 : v6 = .slice a6 (latE 0 es).length c6 := h7
      subst h8
      have hle0 : (((latE 0 es).length : Nat) : Int) ≤ (es.length : Int) := by have := HL0.out; omega
      have HW6 := Lib.hid (below_on HW4.out hle (HB5.out.trans ((below_then b6).mono HB5.out.size)))
      clear n6 b6 h7
      go_wp2_with fail
      go_ret
      exact ⟨rfl, HW6.out⟩
end Go.Proofs.Ytcbailiniigcnaa
