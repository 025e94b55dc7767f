/- The program: block.appendPlace, join. -/
import Derived.Test.YtopnbbchiglpoaaZG
import Derived.Test.YtopnbbchiglpoaaBE
import Derived.Lib.ConvBytes
import Derived.Laws.IdiomCopy
namespace Go.Proofs.Ytopnbbchiglpoaa
open Go.RowKit

/-- An append whose run is known. -/
theorem wpList_append_run {P : Program} (w : World) {ops : Array Oper} {rest : List Oper} {o : Oper} {a : Act} {Q : Exit → Act → World → Prop} (hgd : o.guard = none) (s x : Operand) (t tx : TypeId)
    (ho : o.op = .call { callee := .builtin .append, args := #[s, x], argTypes := #[t, tx] }) (v xv : Value) (hv : a.eval s = v) (hx : a.eval x = xv) {v' : Value} {w' : World}
    (hr : (Builtin.append_ #[t, tx] o.type #[v, xv]).run P w = .ok v' w') (h : wpList P ops Q rest (a.put o.dst v') w') : wpList P ops Q (o :: rest) a w := by
  refine wpList_plain hgd fun K hK => ?_
  unfold Oper.wp execOp
  simp only [ho, resolve, invoke, builtin, Sem.run_bind, Sem.run_pure, Result.andThen_ok, List.map_toArray, List.map_cons, List.map_nil, hv, hx, hr]
  exact hK _ _ h
theorem byteAt (l : List UInt8) (j : Nat) (hj : j < l.length) : (Lib.byteCells l)[j]? = some (.int .u8 (l[j].toNat : Int)) := by simp [Lib.byteCells, hj]
theorem addrJ (g j : Nat) : (⟨g, 0, none⟩ : Addr).add j = ⟨g, j, none⟩ := by unfold Addr.add; split <;> simp_all
/-- A text's bytes, another's behind them, as a text. -/
theorem join_run (a b : ByteArray) (w : World) (ha : a.size ≤ 1000000) (hb : b.size ≤ 1000000) : ∃ C w1, (convert 9 36 (.string a)).run Try.prog w = .ok (.slice (some ⟨w.heap.size, 0, none⟩) a.size C) w1 ∧
    ∃ v' w2, (∀ ty, (Builtin.append_ #[36, 9] ty #[.slice (some ⟨w.heap.size, 0, none⟩) a.size C, .string b]).run Try.prog w1 = .ok v' w2) ∧ (convert 36 9 v').run Try.prog w2 = .ok (.string (a ++ b)) w2 ∧ Below w.heap.size w w2 := by
  obtain ⟨i0, hi, hz0, hzs, hzb⟩ := info_parts infoByte
  have hge : a.size ≤ grownCap w a.size 0 5 := grownCap_ge _ _ _ _
  obtain ⟨W, hW⟩ : ∃ W, Lib.bytesWorld w 5 a = W := ⟨_, rfl⟩
  have hrun := Lib.run_convert_string_bytes w _ _ _ a Try.underlying9 Try.underlying36 Try.underlying5
  have hnew := Lib.bytesWorld_at_new w 5 a
  have hsz := Lib.bytesWorld_size w 5 a
  have hbel : Below w.heap.size w W := by rw [← hW]; exact ⟨rfl, rfl, rfl, by rw [hsz]; omega, fun k hk => Lib.bytesWorld_at_old w _ a k hk⟩
  have hcell : ∀ j (h : j < a.data.toList.length), W.cell? ⟨w.heap.size, j, none⟩ = some (.int .u8 (a.data.toList[j].toNat : Int)) := fun j h => by
    rw [← hW, Lib.bytesWorld_cell w _ a j (by simpa using h)]
    rw [List.getD, List.getElem?_eq_getElem h]
    rfl
  have hcs : (Lib.bytesCells w 5 a).size = grownCap w a.size 0 5 := by
    unfold Lib.bytesCells
    rw [Array.size_append, Array.size_map, Array.size_replicate]
    show a.size + _ = _
    omega
  rw [hW] at hrun hnew hsz
  rw [hcs] at hnew
  generalize hC : grownCap w a.size 0 5 = C at *
  refine ⟨C, W, hrun, ?_⟩
  have hS : Src Try.prog 1 9 (.string b) b.size (Lib.byteCells b.data.toList) W := src_strB b W
  have hla : a.data.toList.length = a.size := len_data' a
  have hlb : b.data.toList.length = b.size := len_data' b
  have hbc : (Lib.byteCells b.data.toList).length = b.size := by simp [Lib.byteCells]
  have hcat : (a ++ b) = ⟨(a.data.toList ++ b.data.toList).toArray⟩ := by rw [← cat_str]
  have hlen : (a.data.toList ++ b.data.toList).length = a.size + b.size := by rw [List.length_append, hla, hlb]
  by_cases hroom : a.size + b.size ≤ C
  · refine ⟨.slice (some ⟨w.heap.size, 0, none⟩) (a.size + b.size) C, W.setCells w.heap.size a.size (Lib.byteCells b.data.toList), fun ty => ?_, ?_, ?_⟩
    · have hthere : ∀ j, j < (Lib.byteCells b.data.toList).length → (W.cell? ⟨w.heap.size, 0 + a.size * i0.size + j, none⟩).isSome = true := fun j hj => by
        rw [hzs]
        simp only [World.cell?, hnew]
        have h1 : 0 + a.size * 1 + j < (Lib.bytesCells w 5 a).size := by rw [hcs]; omega
        rw [Array.getElem?_eq_getElem h1]
        rfl
      have hfree : ∀ j, j < (Lib.byteCells b.data.toList).length → W.frozen? ⟨w.heap.size, 0 + a.size * i0.size + j, none⟩ = false := fun j hj => by
        rw [hzs]
        simp only [World.frozen?, hnew]
        simp
        omega
      have := run_append_room_src (P := Try.prog) W 36 9 ty 5 i0 Try.underlying36 hi w.heap.size 0 a.size C (.string b) b.size _ (by rw [hzs]; exact hS) hroom hthere hfree
      rw [hzs, Nat.zero_add, Nat.mul_one] at this
      exact this
    · rw [hcat, ← hlen]
      refine run_convert_bytes_back (P := Try.prog) _ 36 9 5 ⟨w.heap.size, 0, none⟩ C _ Try.underlying36 Try.underlying5 Try.underlying9 (fun j hj => ?_)
      rw [addrJ]
      by_cases hja : j < a.size
      · rw [World.cell?_setCells_out _ _ _ _ _ (fun _ _ => .inl hja), hcell j (by omega)]
        rw [List.getElem_append_left]
      · have h2 := World.cell?_setCells_in w.heap.size (Lib.byteCells b.data.toList) a.size W (fun j hj => by
          simp only [World.cell?, hnew]
          have h1 : a.size + j < (Lib.bytesCells w 5 a).size := by rw [hcs]; omega
          simp [h1]) (j - a.size) (by omega)
        rw [show a.size + (j - a.size) = j by omega] at h2
        rw [h2, List.getElem_append_right (by omega)]
        simp [Lib.byteCells, hla]
    · exact below_row hbel (Nat.le_refl _) (setCells_grown w.heap.size _ _ W) (fun k hk => by cases hk; exact Nat.le_refl _)
  · have hold : (Builtin.firstCells i0.size a.size (.slice (some ⟨w.heap.size, 0, none⟩) a.size C)).run Try.prog W.drew = .ok (Lib.byteCells a.data.toList).toArray W.drew := by
      rw [hzs]
      refine run_firstCells_some W.drew 1 a.size _ a.size C _ (by simp [Lib.byteCells]) (fun j u hu => ?_)
      rw [addrJ]
      have hj : j < a.data.toList.length := by
        have := (List.getElem?_eq_some_iff.1 hu).1
        simpa [Lib.byteCells] using this
      rw [byteAt _ j hj] at hu
      rw [← Option.some.inj hu]
      exact hcell j hj
    refine ⟨_, _, fun ty => run_append_grow_src (P := Try.prog) W 36 9 ty 5 i0 _ Try.underlying36 hi hz0 (some ⟨w.heap.size, 0, none⟩) a.size C _ hold (.string b) b.size _ (by rw [hzs]; exact hS) (by omega) (by omega) (growslice_fits (by omega) (by rw [hzb]; omega)), ?_, ?_⟩
    · rw [hcat, ← hlen]
      refine run_convert_bytes_back (P := Try.prog) _ 36 9 5 ⟨W.heap.size, 0, none⟩ _ _ Try.underlying36 Try.underlying5 Try.underlying9 (fun j hj => ?_)
      rw [addrJ]
      have hnb := new_block W.drew (.cells ((Lib.byteCells a.data.toList ++ Lib.byteCells b.data.toList).toArray ++ Builtin.zeroCells (Value.int .u8 0).cells (grownCap W (a.data.toList ++ b.data.toList).length C 5 - (a.data.toList ++ b.data.toList).length)) 5) rfl
      simp only [World.cell?]
      rw [show W.drew.heap.size = W.heap.size from rfl] at hnb
      rw [hnb, ← Lib.byteCells_append]
      simp only
      rw [Array.getElem?_append_left (by simp [Lib.byteCells]; omega)]
      rw [List.getElem?_toArray, byteAt _ j hj]
      rfl
    · exact hbel.trans (((Below.refl W.heap.size W).drew.alloc (Nat.le_refl _) _).mono hbel.size)
set_option maxHeartbeats 2000000 in
set_option maxRecDepth 100000 in
theorem join_any (a b : ByteArray) (w : World) (ha : a.size ≤ 1000000) (hb : b.size ≤ 1000000) :
    Calls Try.prog 51 #[.string a, .string b] w fun e w' => e = .returned (.string (a ++ b)) ∧ Below w.heap.size w w' := by
  obtain ⟨C, w1, h1, v', w2, h2, h3, hB⟩ := join_run a b w ha hb
  have HB := Lib.hid hB
  have H2 := Lib.hid h2
  clear hB h2
  generalize a ++ b = AB at *
  go_enter Try.func51, Try.ntmps51
  go_wp2_with (at_builtin; refine wpList_append_run _ rfl _ _ 36 9 rfl _ _ rfl rfl (H2.out _) ?_)
  go_ret
  exact ⟨rfl, HB.out⟩
theorem be4 (p : Nat) (hp : p < 4294967296) : Lib.byteCells (be p 4) = [.int .u8 ((p : Int) / 16777216), .int .u8 ((p : Int) / 65536 % 256), .int .u8 ((p : Int) / 256 % 256), .int .u8 ((p : Int) % 256)] := by
  have e : be p 4 = [UInt8.ofNat (p / 16777216 % 256), UInt8.ofNat (p / 65536 % 256), UInt8.ofNat (p / 256 % 256), UInt8.ofNat (p / 1 % 256)] := rfl
  rw [e]
  have e1 : ((p / 16777216 % 256 % 256 : Nat) : Int) = (p : Int) / 16777216 := by omega
  have e2 : ((p / 65536 % 256 % 256 : Nat) : Int) = (p : Int) / 65536 % 256 := by omega
  have e3 : ((p / 256 % 256 % 256 : Nat) : Int) = (p : Int) / 256 % 256 := by omega
  have e4 : ((p / 1 % 256 % 256 : Nat) : Int) = (p : Int) % 256 := by omega
  simp only [Lib.byteCells, List.map_cons, List.map_nil, UInt8.toNat_ofNat', show (2 : Nat) ^ 8 = 256 from rfl, e1, e2, e3, e4]
set_option maxHeartbeats 2000000 in
set_option maxRecDepth 100000 in
theorem appendPlace_any {w : World} (v : Value) (n p : Nat) (xs : List Value) (hrow : Row w 5 1 v n xs) (hp : p < 4294967296) (hn : n ≤ 100000000) :
    Calls Try.prog 29 #[v, .int .i64 (p : Int)] w fun e w' => ∃ v', e = .returned v' ∧ Row w' 5 1 v' (n + 4) (xs ++ Lib.byteCells (be p 4)) ∧ w.grownBy w' (ob v) ∧ (ob v' = ob v ∨ ∃ g, ob v' = some g ∧ w.heap.size ≤ g) := by
  obtain ⟨i0, hi, hz0, hzs, hzb⟩ := info_parts infoByte
  have hwp : IntKind.u32.wrap (p : Int) = (p : Int) := by rw [IntKind.wrap_u32]; omega
  rw [be4 p hp]
  obtain ⟨a, cap, rfl, -, -⟩ := hrow.le
  have hbl := (Below.refl w.heap.size w).alloc (Nat.le_refl _) (.cells #[.int .u8 ((p : Int) / 16777216), .int .u8 ((p : Int) / 65536 % 256), .int .u8 ((p : Int) / 256 % 256), .int .u8 ((p : Int) % 256)] 5)
  have HG := Lib.hid (grownBy_of_below hbl none)
  have HR := Lib.hid (row_below hrow hbl)
  have HS := Lib.hid (show Src Try.prog 1 36 (.slice (some ⟨w.heap.size, 0, none⟩) 4 4) 4 [.int .u8 ((p : Int) / 16777216), .int .u8 ((p : Int) / 65536 % 256), .int .u8 ((p : Int) / 256 % 256), .int .u8 ((p : Int) % 256)] (w.alloc (.cells #[.int .u8 ((p : Int) / 16777216), .int .u8 ((p : Int) / 65536 % 256), .int .u8 ((p : Int) / 256 % 256), .int .u8 ((p : Int) % 256)] 5)) from
    Src.ofSlice (P := Try.prog) _ (size := 1) Try.underlying36 ⟨w.heap.size, 0, none⟩ 4 4 _ rfl (fun j u hu => by
      match j, hu with
      | 0, hu => simpa [Addr.add] using hu
      | 1, hu => simpa [Addr.add] using hu
      | 2, hu => simpa [Addr.add] using hu
      | 3, hu => simpa [Addr.add] using hu) (by simp [Value.oneCell']))
  have H1 := Lib.hid (show n + 4 ≤ maxLen by unfold maxLen; omega)
  have H2 := Lib.hid (show (n + 4) * 1 ≤ 140737488355328 by omega)
  clear hrow hbl
  go_enter Try.func29, Try.ntmps29
  go_wp2_with (at_builtin; refine wpList_append_row _ rfl _ _ 36 36 rfl 5 i0 _ 1 1 Try.underlying36 hi hz0 hzs hzb rfl (.slice a n cap) _ _ rfl HR.out _ rfl 4 _ HS.out H1.out H2.out ?_; intro v' w5 hrow5 hgrow5 hob5)
  go_ret
  refine ⟨v', rfl, hrow5, ⟨hgrow5.os.trans HG.out.os, hgrow5.tape.trans HG.out.tape, hgrow5.output.trans HG.out.output, Nat.le_trans HG.out.size hgrow5.size, fun k hk hr => (hgrow5.block k (Nat.lt_of_lt_of_le hk HG.out.size) hr).trans (HG.out.block k hk (by simp))⟩, ?_⟩
  rcases hob5 with e | ⟨e, -⟩
  · exact .inl e
  · exact .inr ⟨_, e, HG.out.size⟩
end Go.Proofs.Ytopnbbchiglpoaa
