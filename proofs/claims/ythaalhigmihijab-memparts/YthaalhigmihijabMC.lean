/- wal's PutBatch. -/
import Derived.Test.YthaalhigmihijabMB
import Derived.Test.YthaalhigmihijabF2
namespace Go.Proofs.Ythaalhigmihijab
open Go.RowKit

/-- A builder of a call that began at w0, holding bytes; what lies beside it stays. -/
def BldF (w0 : World) (b : Nat) (acc : List UInt8) (w : World) : Prop := Lib.IsBuilderF 87 5 w0.heap.size b (Lib.byteCells acc) w ∧ Below w0.heap.size w0 w
theorem freshF (w : World) : BldF w w.heap.size [] (w.alloc (Obj.cells #[Value.pointer none, Value.slice none 0 0] 87)) :=
  ⟨Lib.IsBuilderF.of (Lib.fresh_isBuilder _ _ _), (Below.refl _ _).alloc (Nat.le_refl _) _⟩
theorem BldF.below {w0 w w' : World} {b : Nat} {acc : List UInt8} (h : BldF w0 b acc w) (hb : Below w.heap.size w w') : BldF w0 b acc w' := by
  have one : ∀ p, Lib.BuilderAtF 87 5 w0.heap.size b p (Lib.byteCells acc) w → Lib.BuilderAtF 87 5 w0.heap.size b p (Lib.byteCells acc) w' := by
    rintro p ⟨hB, v, hv, hown, hne⟩
    have hlt := (Array.getElem?_eq_some_iff.1 hv).1
    refine ⟨hB, v, (hb.block b hlt).trans hv, ⟨hown.1, ?_⟩, hne⟩
    rcases hown.2 with h0 | ⟨g, cap, cur, fz, e1, e2, e3, e4⟩
    · exact .inl h0
    · exact .inr ⟨g, cap, cur, fz, e1, e2, (hb.block g (Array.getElem?_eq_some_iff.1 e3).1).trans e3, e4⟩
  exact ⟨h.1.elim (fun x => .inl (one _ x)) (fun x => .inr (one _ x)), h.2.trans (hb.mono h.2.size)⟩
theorem BldF.new {w0 w : World} {b : Nat} {acc : List UInt8} (h : BldF w0 b acc w) (o : Obj) : BldF w0 b acc (w.alloc o) := h.below ((Below.refl _ _).alloc (Nat.le_refl _) o)
theorem BldF.len {w0 w : World} {b : Nat} {acc : List UInt8} (h : BldF w0 b acc w) : ∃ a cap, w.cell? ⟨b, 1, none⟩ = some (.slice a acc.length cap) := by
  have key : ∀ p, Lib.BuilderAtF 87 5 w0.heap.size b p (Lib.byteCells acc) w → ∃ a cap, w.cell? ⟨b, 1, none⟩ = some (.slice a acc.length cap) := by
    rintro p ⟨-, v, hv, hown, -⟩
    have hl : (Lib.byteCells acc).length = acc.length := by simp [Lib.byteCells]
    have hc : w.cell? ⟨b, 1, none⟩ = some v := by unfold World.cell?; rw [hv]; rfl
    rw [hl] at hown
    rcases hown.2 with ⟨rfl, h0⟩ | ⟨g, cap, cur, fz, rfl, -⟩
    · rw [h0]; exact ⟨_, _, hc⟩
    · exact ⟨_, _, hc⟩
  exact h.1.elim (key _) (key _)
theorem writeF_any (w0 : World) (b : Nat) (acc : List UInt8) (A : ByteArray) (w : World) (h : BldF w0 b acc w) (hl : acc.length + A.size ≤ 140737488355328) :
    Calls Try.prog 45 #[.pointer (some ⟨b, 0, none⟩), .string A] w fun e w' => e = .returned (.tuple #[.int .i64 A.size, .nilIface]) ∧ BldF w0 b (acc ++ A.data.toList) w' ∧ Lib.OthersKept 5 (some b) w w' := by
  refine (Try.Builder_WriteString_k w0.heap.size b (Lib.byteCells acc) A w h.1 (by simpa [Lib.byteCells] using hl) h.2.size).mono ?_
  rintro e w1 ⟨rfl, hq, hb, hk⟩
  refine ⟨rfl, ⟨.inr ?_, h.2.trans hb⟩, hk⟩
  rw [Lib.byteCells_append]
  exact hq
theorem stringF_any (w0 : World) (b : Nat) (acc : List UInt8) (w : World) (h : BldF w0 b acc w) :
    Calls Try.prog 50 #[.pointer (some ⟨b, 0, none⟩)] w fun e w' => e = .returned (.string ⟨acc.toArray⟩) ∧ Below w0.heap.size w0 w' := by
  refine (Try.Builder_String_any_k w0.heap.size b acc w h.1 h.2.size).mono ?_
  rintro e w1 ⟨rfl, -, hb, -⟩
  exact ⟨rfl, h.2.trans hb⟩
/-- A box that lies beside a builder. -/
def BoxW (w : World) (n : Nat) (K V : ByteArray) (D : Bool) : Prop := w.heap[n]? = some (.cells #[.string K, .string V, .bool D] 52)
theorem BoxW.kept {w w' : World} {n b : Nat} {K V : ByteArray} {D : Bool} (h : BoxW w n K V D) (hk : Lib.OthersKept 5 (some b) w w') (hn : n ≠ b) : BoxW w' n K V D :=
  hk n _ h (fun e => hn (by cases e; rfl)) (fun c fz e => by cases e)
theorem BoxW.below {w w' : World} {n : Nat} {K V : ByteArray} {D : Bool} (h : BoxW w n K V D) (hb : Below w.heap.size w w') : BoxW w' n K V D := (hb.block n (Array.getElem?_eq_some_iff.1 h).1).trans h
theorem BoxW.k {w : World} {n : Nat} {K V : ByteArray} {D : Bool} (h : BoxW w n K V D) : w.cell? ⟨n, 0, none⟩ = some (.string K) := by unfold World.cell?; rw [show w.heap[n]? = _ from h]; rfl
theorem BoxW.v {w : World} {n : Nat} {K V : ByteArray} {D : Bool} (h : BoxW w n K V D) : w.cell? ⟨n, 1, none⟩ = some (.string V) := by unfold World.cell?; rw [show w.heap[n]? = _ from h]; rfl
theorem BoxW.d {w : World} {n : Nat} {K V : ByteArray} {D : Bool} (h : BoxW w n K V D) : w.cell? ⟨n, 2, none⟩ = some (.bool D) := by unfold World.cell?; rw [show w.heap[n]? = _ from h]; rfl
set_option maxHeartbeats 1000000 in
theorem bldLen_any (w0 : World) (b : Nat) (acc : List UInt8) (w : World) (h : BldF w0 b acc w) :
    Calls Try.prog 49 #[.pointer (some ⟨b, 0, none⟩)] w fun e w' => e = .returned (.int .i64 (acc.length : Int)) ∧ w = w' := by
  obtain ⟨a, cap, hc⟩ := h.len
  go_enter Try.func49, Try.ntmps49
  go_wp2
  go_ret
  exact ⟨rfl, rfl⟩
theorem text2 (x y : ByteArray) (b : Nat) (W : World) (hx : x.size ≤ 1000000) (hy : y.size ≤ 1000000) (h0 : W.cell? ⟨b, 0, none⟩ = some (.string x)) (h1 : W.cell? ⟨b, 1, none⟩ = some (.string y)) :
    Calls Try.prog 48 #[.slice (some ⟨b, 0, none⟩) 2 2] W fun e w' => e = .returned (.string ⟨(ntexts [x, y]).toArray⟩) ∧ Below W.heap.size W w' :=
  text_any b 0 2 [x, y] W (fun s hs => by simp at hs; unfold maxLen; rcases hs with rfl | rfl <;> omega) (by simp [ntotal]; omega) (fun i hi => by
    match i, hi with
    | 0, _ => exact h0
    | 1, _ => exact h1) (World.block_lt_of_cell? W _ h0)
theorem var2 (x y : Nat) (b : Nat) (W : World) (hx : x < 18446744073709551616) (hy : y < 18446744073709551616) (h0 : W.cell? ⟨b, 0, none⟩ = some (.int .u64 (x : Int))) (h1 : W.cell? ⟨b, 1, none⟩ = some (.int .u64 (y : Int))) :
    Calls Try.prog 46 #[.slice (some ⟨b, 0, none⟩) 2 2] W fun e w' => e = .returned (.string ⟨(vars [x, y]).toArray⟩) ∧ Below W.heap.size W w' :=
  var_any b 0 2 [x, y] W (fun s hs => by simp at hs; rcases hs with rfl | rfl <;> assumption) (by simp) (fun i hi => by
    match i, hi with
    | 0, _ => exact h0
    | 1, _ => exact h1) (World.block_lt_of_cell? W _ h0)
theorem byte1 (d : Bool) : (⟨#[if d then 1 else 0]⟩ : ByteArray).data.toList = if d then [1] else [0] := by cases d <;> rfl
theorem ret_put {a b : ByteArray} {e : Int} (h : a = b) : Ending.returned (.tuple #[.string a, .int .i64 e]) = .returned (.tuple #[.string b, .int .i64 e]) := by rw [h]
/-- What PutBatch answers. -/
def putV (first : Nat) (ws : List Wr) : Value := if wrsOk ws then .tuple #[.string ⟨(putB first ws).toArray⟩, .int .i64 0] else .tuple #[.string ⟨#[]⟩, .int .i64 1]
theorem putV_no (first : Nat) {ws : List Wr} (h : wrsOk ws = false) : putV first ws = .tuple #[.string ⟨#[]⟩, .int .i64 1] := by unfold putV; rw [h]; rfl
theorem putV_yes (first : Nat) {ws : List Wr} (h : wrsOk ws = true) : putV first ws = .tuple #[.string ⟨(putB first ws).toArray⟩, .int .i64 0] := by unfold putV; rw [h]; rfl
set_option maxHeartbeats 4000000 in
set_option maxRecDepth 100000 in
theorem putBatch_any (first : Nat) (a : Option Addr) (len cap : Nat) (ws : List Wr) (w : World) (hE : WrsAt w.heap.size w a len ws) (hl : len ≤ 60) (hok0 : ∀ x ∈ ws, x.Ok) (hf : first < 18446744073709551616) :
    Calls Try.prog 36 #[.agg #[.int .u64 (first : Int), .slice a len cap]] w fun e w' => e = .returned (putV first ws) ∧ Below w.heap.size w w' := by
  have hel := hE.1
  obtain ⟨wB, hwB⟩ : ∃ wB, w.alloc (.cells #[.int .u64 (first : Int), .slice a len cap] 75) = wB := ⟨_, rfl⟩
  have bB : Below w.heap.size w wB := by rw [← hwB]; exact (Below.refl _ _).alloc (Nat.le_refl _) _
  have c0 : wB.cell? ⟨w.heap.size, 0, none⟩ = some (.int .u64 (first : Int)) := by rw [← hwB]; exact ncell rfl rfl
  have c1 : wB.cell? ⟨w.heap.size, 1, none⟩ = some (.slice a len cap) := by rw [← hwB]; exact ncell rfl rfl
  have hlt : w.heap.size < wB.heap.size := by rw [← hwB]; simp
  have C1 := Lib.hid (areRight_any a len cap ws wB (hE.grown bB) (by omega) hok0)
  have HE := Lib.hid hE
  have HWB := Lib.hid hwB
  go_enter Try.func36, Try.ntmps36
  go_wp2_with (fail)
  clear hE hok0 hwB
  go_at_call 44
  refine C1.out.mono ?_
  rintro e W1 ⟨rfl, hb1⟩
  have hB1 : Below w.heap.size w W1 := bB.trans (hb1.mono bB.size)
  have x0 := (hb1.cell (p := ⟨w.heap.size, 0, none⟩) hlt).trans c0
  have x1 := (hb1.cell (p := ⟨w.heap.size, 1, none⟩) hlt).trans c1
  have hlt1 : w.heap.size < W1.heap.size := Nat.lt_of_lt_of_le hlt hb1.size
  clear c0 c1 HWB
  cases hok : wrsOk ws with
  | false =>
    have HOK := Lib.hid hok
    clear hok
    go_wp2
    refine bodyPost_ret (results_tmp2 rfl _ _ _) rfl ?_
    exact ⟨congrArg Ending.returned (putV_no first HOK.out).symm, hB1⟩
  | true =>
    have HOK := Lib.hid hok
    have HSZ := Lib.hid (show sizeWs ws ≤ 3618000 by have := sizeWs_ok ws (wrsOk_all hok); omega)
    have HKS := Lib.hid (wrsOk_all hok)
    clear hok
    have hw : IntKind.u64.wrap (len : Int) = (len : Int) := by rw [IntKind.wrap_u64]; omega
    have hbf := freshF W1
    obtain ⟨W2, hW2⟩ : ∃ W2, W1.alloc (Obj.cells #[Value.pointer none, Value.slice none 0 0] 87) = W2 := ⟨_, rfl⟩
    have HW2 := Lib.hid hW2
    rw [hW2] at hbf
    have y0 := (hbf.2.cell (p := ⟨w.heap.size, 0, none⟩) hlt1).trans x0
    have y1 := (hbf.2.cell (p := ⟨w.heap.size, 1, none⟩) hlt1).trans x1
    have hlt2 : w.heap.size < W2.heap.size := Nat.lt_of_lt_of_le hlt1 hbf.2.size
    have o0 := fun o => ocell (o := o) hlt2 y0
    have o1 := fun o => ocell (o := o) hlt2 y1
    have CV := Lib.hid (var2 first len W2.heap.size (W2.alloc (.cells #[.int .u64 (first : Int), .int .u64 (len : Int)] 24)) hf (by omega) (ncell rfl rfl) (ncell rfl rfl))
    have CW := Lib.hid (fun acc A W h hl => writeF_any W1 W1.heap.size acc A W h hl)
    have CL := Lib.hid (fun acc W h => bldLen_any W1 W1.heap.size acc W h)
    have CS := Lib.hid (fun acc W h => stringF_any W1 W1.heap.size acc W h)
    go_wp2_with (fail)
    go_at_call 46
    refine CV.out.mono ?_
    rintro _ W3 ⟨rfl, hb3⟩
    have bd3 : BldF W1 W1.heap.size [] W3 := (hbf.new _).below hb3
    have HVL := Lib.hid (vars_length [first, len] (fun z hz => by simp at hz; rcases hz with rfl | rfl <;> omega))
    have z1 := (bd3.2.cell (p := ⟨w.heap.size, 1, none⟩) hlt1).trans x1
    clear y0 y1 o0 o1 hb3 HW2 hW2 hbf CV x0
    go_wp2_with (fail)
    go_at_call 45
    refine (CW.out _ _ _ bd3 (by have := HVL.out; simp [ByteArray.size] at this ⊢; omega)).mono ?_
    rintro _ W4 ⟨rfl, bd4, -⟩
    have z1' := (bd4.2.cell (p := ⟨w.heap.size, 1, none⟩) hlt1).trans x1
    clear z1 bd3
    go_wp2_with (fail)
    go_loopw [23] (fun iv wr => ∃ (i : Nat) (acc : List UInt8), iv = .int .i64 (i : Int) ∧ i ≤ len ∧ BldF W1 W1.heap.size acc wr ∧ Hid (acc = vars [first, len] ++ putWs (ws.take i))) (fun iv _ => len - (intOf iv).toNat)
    case atStart => exact ⟨0, _, rfl, Nat.zero_le _, bd4, Lib.hid (by simp [putWs])⟩
    case round =>
      obtain ⟨i, acc, rfl, hil0, hbd, HA⟩ := hrel
      have hacc : acc.length ≤ 4000000 := by
        have h1 := putWs_length (ws.take i) (Nat.le_trans (sizeWs_take ws i) (Nat.le_trans HSZ.out (by omega)))
        have h2 := sizeWs_take ws i
        have h3 := HVL.out
        have h4 := HSZ.out
        have h5 : (ws.take i).length ≤ 60 := by rw [List.length_take]; omega
        rw [HA.out, List.length_append]
        simp at h3
        omega
      have hblw : Below w.heap.size w wr := hB1.trans (hbd.2.mono hB1.size)
      by_cases hlt' : i < len
      · obtain ⟨b, off, rfl, hblt, ⟨K, V, D⟩, hget, hcell⟩ : ∃ b off, a = some ⟨b, off, none⟩ ∧ b < w.heap.size ∧ ∃ x : Wr, ws[i]? = some x ∧ ∀ j u, x.cells[j]? = some u → wr.cell? ⟨b, off + i * 3 + j, none⟩ = some u := by
          rcases (HE.out.below hblw).2 with h0 | ⟨b, off, e, h1, h2⟩
          · omega
          · exact ⟨b, off, e, h1, ws[i]'(by omega), List.getElem?_eq_getElem (by omega), h2 i (by omega)⟩
        have hbr : b < wr.heap.size := by have := hblw.size; omega
        have q0 : wr.cell? ⟨b, off + i * 3, none⟩ = some (.string K) := hcell 0 _ rfl
        have q1 : wr.cell? ⟨b, off + i * 3 + 1, none⟩ = some (.string V) := hcell 1 _ rfl
        have q2 : wr.cell? ⟨b, off + i * 3 + 2, none⟩ = some (.bool D) := hcell 2 _ rfl
        have hil : (i : Int) < (len : Int) := by omega
        have hgi : ws[i]'(by omega) = ⟨K, V, D⟩ := by
          have := hget
          rw [List.getElem?_eq_getElem (by omega)] at this
          exact Option.some.inj this
        have hks : K.size ≤ 1000000 ∧ V.size ≤ 1000000 := by
          have h1 := wrOk_sizes (HKS.out _ (List.mem_of_getElem? hget))
          simp only at h1
          omega
        have CB := Lib.hid (bool_any D)
        obtain ⟨BS, hBS⟩ : ∃ BS : ByteArray, (⟨#[if D then 1 else 0]⟩ : ByteArray) = BS := ⟨_, rfl⟩
        have hBl : BS.size = 1 := by rw [← hBS]; rfl
        rw [hBS] at CB
        obtain ⟨TS, hTS⟩ : ∃ TS : ByteArray, (⟨(ntexts [K, V]).toArray⟩ : ByteArray) = TS := ⟨_, rfl⟩
        have HNX := Lib.hid (show acc ++ BS.data.toList ++ TS.data.toList = vars [first, len] ++ putWs (ws.take (i + 1)) by
          rw [← hBS, ← hTS, byte1, List.toList_toArray, take_snoc_w ws i (by omega), putWs_snoc, hgi, HA.out]
          simp only [putW, List.append_assoc])
        have hTl : TS.size ≤ 3000000 := by
          rw [← hTS, show (⟨(ntexts [K, V]).toArray⟩ : ByteArray).size = (ntexts [K, V]).length by simp [ByteArray.size]]
          have := ntexts_length [K, V] (fun x hx => by simp at hx; unfold maxLen; rcases hx with rfl | rfl <;> omega)
          simp [ntotal] at this
          omega
        have CT := Lib.hid (fun n W h0 h1 => text2 K V n W hks.1 hks.2 h0 h1)
        rw [hTS] at CT
        clear hBS hTS
        have hbn := hbd.new (.cells #[.string K, .string V, .bool D] 52)
        have hne : wr.heap.size ≠ W1.heap.size := by
          obtain ⟨_, _, hcx⟩ := hbd.len
          have h1 := World.block_lt_of_cell? wr _ hcx
          simp only at h1
          omega
        obtain ⟨W5, hW5⟩ : ∃ W5, wr.alloc (.cells #[.string K, .string V, .bool D] 52) = W5 := ⟨_, rfl⟩
        rw [hW5] at hbn
        have hbx : BoxW W5 wr.heap.size K V D := by rw [← hW5]; exact heap_alloc_new wr _
        have hbxd := hbx.d
        clear hcell hget hgi
        go_wp2_with (fail)
        go_at_call 47
        refine (CB.out _).mono ?_
        rintro _ _ ⟨rfl, rfl⟩
        go_wp2_with (fail)
        go_at_call 45
        refine (CW.out _ _ _ hbn (by omega)).mono ?_
        rintro _ W6 ⟨rfl, bd6, hk6⟩
        have hb6 := hbx.kept hk6 hne
        have hb6k := hb6.k
        have hb6v := hb6.v
        clear hk6 hbx hbxd hbn hW5 q0 q1 q2
        go_wp2_with (fail)
        go_at_call 48
        refine (CT.out _ _ (ncell rfl rfl) (ncell rfl rfl)).mono ?_
        rintro _ W7 ⟨rfl, hb7⟩
        have bd7 := (bd6.new _).below hb7
        clear hb6 hb6k hb6v bd6 hb7
        go_wp2_with (fail)
        go_at_call 45
        refine (CW.out _ _ _ bd7 (by rw [List.length_append]; have h1 : BS.data.toList.length = BS.size := len_data' BS; omega)).mono ?_
        rintro _ W8 ⟨rfl, bd8, -⟩
        go_wp2_with (fail)
        go_at_call 49
        refine (CL.out _ _ bd8).mono ?_
        rintro _ _ ⟨rfl, rfl⟩
        have hfin : (acc ++ BS.data.toList ++ TS.data.toList).length ≤ 16777216 := by
          have h1 := len_data' BS
          have h2 := len_data' TS
          rw [List.length_append, List.length_append]
          omega
        have df : decide (16777216 < (((acc ++ BS.data.toList ++ TS.data.toList).length : Nat) : Int)) = false := by rw [decide_eq_false_iff_not]; omega
        have HRL := Lib.hid (show acc ++ BS.data.toList ++ TS.data.toList = vars [first, len] ++ putWs (ws.take (i + 1)) from HNX.out)
        generalize acc ++ BS.data.toList ++ TS.data.toList = acc2 at *
        have dg : decide (16777216 < acc2.length) = false := by rw [decide_eq_false_iff_not]; omega
        clear bd7
        go_wp2
        go_roundw
        case rel => exact ⟨i + 1, acc2, by go_num, by omega, bd8, HRL⟩
        case measure => simp [intOf]; omega
      · obtain rfl : i = len := by omega
        clear hblw
        go_wp2_with (fail)
        go_at_call 50
        refine (CS.out _ _ hbd).mono ?_
        rintro _ W5 ⟨rfl, hb5⟩
        go_wp2
        refine bodyPost_ret (results_tmp2 rfl _ _ _) rfl ?_
        refine ⟨(congrArg Ending.returned (putV_yes first HOK.out)).symm ▸ ret_put ?_, hB1.trans (hb5.mono hB1.size)⟩
        have := HA.out
        rw [List.take_of_length_le (by omega)] at this
        rw [this, putB, hel]
end Go.Proofs.Ythaalhigmihijab
