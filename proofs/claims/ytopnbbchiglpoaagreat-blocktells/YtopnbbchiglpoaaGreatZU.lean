/- The program: block.Put, where the versions are not right or not in order; and over lay. (ZA and ZU joined.) -/
import Derived.Test.YtopnbbchiglpoaaGreatZG
import Derived.Test.YtopnbbchiglpoaaGreatBE
import Derived.Lib.ConvBytes
import Derived.Laws.IdiomCopy
namespace Go.Proofs.YtopnbbchiglpoaaGreat
open Go.RowKit

/-- An append whose run is known. -/
theorem wpList_append_run {P : Program} (w : World) {ops : Array Oper} {rest : List Oper} {o : Oper} {a : Act} {Q : Exit → Act → World → Prop} (hgd : o.guard = none) (s x : Operand) (t tx : TypeId)
    (ho : o.op = .call { callee := .builtin .append, args := #[s, x], argTypes := #[t, tx] }) (v xv : Value) (hv : a.eval s = v) (hx : a.eval x = xv) {v' : Value} {w' : World}
    (hr : (Builtin.append_ #[t, tx] o.type #[v, xv]).run P w = .ok v' w') (h : wpList P ops Q rest (a.put o.dst v') w') : wpList P ops Q (o :: rest) a w := by
  refine wpList_plain hgd fun K hK => ?_
  unfold Oper.wp execOp
  simp only [ho, resolve, invoke, builtin, Sem.run_bind, Sem.run_pure, Result.andThen_ok, List.map_toArray, List.map_cons, List.map_nil, hv, hx, hr]
  exact hK _ _ h
theorem byteAt (l : List UInt8) (j : Nat) (hj : j < l.length) : (Lib.byteCells l)[j]? = some (.int .u8 (l[j].toNat : Int)) := by simp [Lib.byteCells, hj]
theorem addrJ (g j : Nat) : (⟨g, 0, none⟩ : Addr).add j = ⟨g, j, none⟩ := by unfold Addr.add; split <;> simp_all
/-- A text's bytes, another's behind them, as a text. -/
theorem join_run (a b : ByteArray) (w : World) (ha : a.size ≤ 1000000) (hb : b.size ≤ 1000000) : ∃ C w1, (convert 9 65 (.string a)).run Tryz.prog w = .ok (.slice (some ⟨w.heap.size, 0, none⟩) a.size C) w1 ∧
    ∃ v' w2, (∀ ty, (Builtin.append_ #[65, 9] ty #[.slice (some ⟨w.heap.size, 0, none⟩) a.size C, .string b]).run Tryz.prog w1 = .ok v' w2) ∧ (convert 65 9 v').run Tryz.prog w2 = .ok (.string (a ++ b)) w2 ∧ Below w.heap.size w w2 := by
  obtain ⟨i0, hi, hz0, hzs, hzb⟩ := info_parts infoByte
  have hge : a.size ≤ grownCap w a.size 0 5 := grownCap_ge _ _ _ _
  obtain ⟨W, hW⟩ : ∃ W, Lib.bytesWorld w 5 a = W := ⟨_, rfl⟩
  have hrun := Lib.run_convert_string_bytes w _ _ _ a Tryz.underlying9 Tryz.underlying65 Tryz.underlying5
  have hnew := Lib.bytesWorld_at_new w 5 a
  have hsz := Lib.bytesWorld_size w 5 a
  have hbel : Below w.heap.size w W := by rw [← hW]; exact ⟨rfl, rfl, rfl, by rw [hsz]; omega, fun k hk => Lib.bytesWorld_at_old w _ a k hk⟩
  have hcell : ∀ j (h : j < a.data.toList.length), W.cell? ⟨w.heap.size, j, none⟩ = some (.int .u8 (a.data.toList[j].toNat : Int)) := fun j h => by
    rw [← hW, Lib.bytesWorld_cell w _ a j (by simpa using h)]
    rw [List.getD, List.getElem?_eq_getElem h]
    rfl
  have hcs : (Lib.bytesCells w 5 a).size = grownCap w a.size 0 5 := by
    unfold Lib.bytesCells
    rw [Array.size_append, Array.size_map, Array.size_replicate]
    show a.size + _ = _
    omega
  rw [hW] at hrun hnew hsz
  rw [hcs] at hnew
  generalize hC : grownCap w a.size 0 5 = C at *
  refine ⟨C, W, hrun, ?_⟩
  have hS : Src Tryz.prog 1 9 (.string b) b.size (Lib.byteCells b.data.toList) W := src_strB b W
  have hla : a.data.toList.length = a.size := len_data' a
  have hlb : b.data.toList.length = b.size := len_data' b
  have hbc : (Lib.byteCells b.data.toList).length = b.size := by simp [Lib.byteCells]
  have hcat : (a ++ b) = ⟨(a.data.toList ++ b.data.toList).toArray⟩ := by rw [← cat_str]
  have hlen : (a.data.toList ++ b.data.toList).length = a.size + b.size := by rw [List.length_append, hla, hlb]
  by_cases hroom : a.size + b.size ≤ C
  · refine ⟨.slice (some ⟨w.heap.size, 0, none⟩) (a.size + b.size) C, W.setCells w.heap.size a.size (Lib.byteCells b.data.toList), fun ty => ?_, ?_, ?_⟩
    · have hthere : ∀ j, j < (Lib.byteCells b.data.toList).length → (W.cell? ⟨w.heap.size, 0 + a.size * i0.size + j, none⟩).isSome = true := fun j hj => by
        rw [hzs]
        simp only [World.cell?, hnew]
        have h1 : 0 + a.size * 1 + j < (Lib.bytesCells w 5 a).size := by rw [hcs]; omega
        rw [Array.getElem?_eq_getElem h1]
        rfl
      have hfree : ∀ j, j < (Lib.byteCells b.data.toList).length → W.frozen? ⟨w.heap.size, 0 + a.size * i0.size + j, none⟩ = false := fun j hj => by
        rw [hzs]
        simp only [World.frozen?, hnew]
        simp
        omega
      have := run_append_room_src (P := Tryz.prog) W 65 9 ty 5 i0 Tryz.underlying65 hi w.heap.size 0 a.size C (.string b) b.size _ (by rw [hzs]; exact hS) hroom hthere hfree
      rw [hzs, Nat.zero_add, Nat.mul_one] at this
      exact this
    · rw [hcat, ← hlen]
      refine run_convert_bytes_back (P := Tryz.prog) _ 65 9 5 ⟨w.heap.size, 0, none⟩ C _ Tryz.underlying65 Tryz.underlying5 Tryz.underlying9 (fun j hj => ?_)
      rw [addrJ]
      by_cases hja : j < a.size
      · rw [World.cell?_setCells_out _ _ _ _ _ (fun _ _ => .inl hja), hcell j (by omega)]
        rw [List.getElem_append_left]
      · have h2 := World.cell?_setCells_in w.heap.size (Lib.byteCells b.data.toList) a.size W (fun j hj => by
          simp only [World.cell?, hnew]
          have h1 : a.size + j < (Lib.bytesCells w 5 a).size := by rw [hcs]; omega
          simp [h1]) (j - a.size) (by omega)
        rw [show a.size + (j - a.size) = j by omega] at h2
        rw [h2, List.getElem_append_right (by omega)]
        simp [Lib.byteCells, hla]
    · exact below_row hbel (Nat.le_refl _) (setCells_grown w.heap.size _ _ W) (fun k hk => by cases hk; exact Nat.le_refl _)
  · have hold : (Builtin.firstCells i0.size a.size (.slice (some ⟨w.heap.size, 0, none⟩) a.size C)).run Tryz.prog W.drew = .ok (Lib.byteCells a.data.toList).toArray W.drew := by
      rw [hzs]
      refine run_firstCells_some W.drew 1 a.size _ a.size C _ (by simp [Lib.byteCells]) (fun j u hu => ?_)
      rw [addrJ]
      have hj : j < a.data.toList.length := by
        have := (List.getElem?_eq_some_iff.1 hu).1
        simpa [Lib.byteCells] using this
      rw [byteAt _ j hj] at hu
      rw [← Option.some.inj hu]
      exact hcell j hj
    refine ⟨_, _, fun ty => run_append_grow_src (P := Tryz.prog) W 65 9 ty 5 i0 _ Tryz.underlying65 hi hz0 (some ⟨w.heap.size, 0, none⟩) a.size C _ hold (.string b) b.size _ (by rw [hzs]; exact hS) (by omega) (by omega) (growslice_fits (by omega) (by rw [hzb]; omega)), ?_, ?_⟩
    · rw [hcat, ← hlen]
      refine run_convert_bytes_back (P := Tryz.prog) _ 65 9 5 ⟨W.heap.size, 0, none⟩ _ _ Tryz.underlying65 Tryz.underlying5 Tryz.underlying9 (fun j hj => ?_)
      rw [addrJ]
      have hnb := new_block W.drew (.cells ((Lib.byteCells a.data.toList ++ Lib.byteCells b.data.toList).toArray ++ Builtin.zeroCells (Value.int .u8 0).cells (grownCap W (a.data.toList ++ b.data.toList).length C 5 - (a.data.toList ++ b.data.toList).length)) 5) rfl
      simp only [World.cell?]
      rw [show W.drew.heap.size = W.heap.size from rfl] at hnb
      rw [hnb, ← Lib.byteCells_append]
      simp only
      rw [Array.getElem?_append_left (by simp [Lib.byteCells]; omega)]
      rw [List.getElem?_toArray, byteAt _ j hj]
      rfl
    · exact hbel.trans (((Below.refl W.heap.size W).drew.alloc (Nat.le_refl _) _).mono hbel.size)
set_option maxHeartbeats 2000000 in
set_option maxRecDepth 100000 in
theorem join_any (a b : ByteArray) (w : World) (ha : a.size ≤ 1000000) (hb : b.size ≤ 1000000) :
    Calls Tryz.prog 155 #[.string a, .string b] w fun e w' => e = .returned (.string (a ++ b)) ∧ Below w.heap.size w w' := by
  obtain ⟨C, w1, h1, v', w2, h2, h3, hB⟩ := join_run a b w ha hb
  have HB := Lib.hid hB
  have H2 := Lib.hid h2
  clear hB h2
  generalize a ++ b = AB at *
  go_enter Tryz.func155, Tryz.ntmps155
  go_wp2_with (at_builtin; refine wpList_append_run _ rfl _ _ 65 9 rfl _ _ rfl rfl (H2.out _) ?_)
  go_ret
  exact ⟨rfl, HB.out⟩
theorem be4 (p : Nat) (hp : p < 4294967296) : Lib.byteCells (be p 4) = [.int .u8 ((p : Int) / 16777216), .int .u8 ((p : Int) / 65536 % 256), .int .u8 ((p : Int) / 256 % 256), .int .u8 ((p : Int) % 256)] := by
  have e : be p 4 = [UInt8.ofNat (p / 16777216 % 256), UInt8.ofNat (p / 65536 % 256), UInt8.ofNat (p / 256 % 256), UInt8.ofNat (p / 1 % 256)] := rfl
  rw [e]
  have e1 : ((p / 16777216 % 256 % 256 : Nat) : Int) = (p : Int) / 16777216 := by omega
  have e2 : ((p / 65536 % 256 % 256 : Nat) : Int) = (p : Int) / 65536 % 256 := by omega
  have e3 : ((p / 256 % 256 % 256 : Nat) : Int) = (p : Int) / 256 % 256 := by omega
  have e4 : ((p / 1 % 256 % 256 : Nat) : Int) = (p : Int) % 256 := by omega
  simp only [Lib.byteCells, List.map_cons, List.map_nil, UInt8.toNat_ofNat', show (2 : Nat) ^ 8 = 256 from rfl, e1, e2, e3, e4]
set_option maxHeartbeats 2000000 in
set_option maxRecDepth 100000 in
theorem appendPlace_any {w : World} (v : Value) (n p : Nat) (xs : List Value) (hrow : Row w 5 1 v n xs) (hp : p < 4294967296) (hn : n ≤ 100000000) :
    Calls Tryz.prog 103 #[v, .int .i64 (p : Int)] w fun e w' => ∃ v', e = .returned v' ∧ Row w' 5 1 v' (n + 4) (xs ++ Lib.byteCells (be p 4)) ∧ w.grownBy w' (ob v) ∧ (ob v' = ob v ∨ ∃ g, ob v' = some g ∧ w.heap.size ≤ g) := by
  obtain ⟨i0, hi, hz0, hzs, hzb⟩ := info_parts infoByte
  have hwp : IntKind.u32.wrap (p : Int) = (p : Int) := by rw [IntKind.wrap_u32]; omega
  rw [be4 p hp]
  obtain ⟨a, cap, rfl, -, -⟩ := hrow.le
  have hbl := (Below.refl w.heap.size w).alloc (Nat.le_refl _) (.cells #[.int .u8 ((p : Int) / 16777216), .int .u8 ((p : Int) / 65536 % 256), .int .u8 ((p : Int) / 256 % 256), .int .u8 ((p : Int) % 256)] 5)
  have HG := Lib.hid (grownBy_of_below hbl none)
  have HR := Lib.hid (row_below hrow hbl)
  have HS := Lib.hid (show Src Tryz.prog 1 65 (.slice (some ⟨w.heap.size, 0, none⟩) 4 4) 4 [.int .u8 ((p : Int) / 16777216), .int .u8 ((p : Int) / 65536 % 256), .int .u8 ((p : Int) / 256 % 256), .int .u8 ((p : Int) % 256)] (w.alloc (.cells #[.int .u8 ((p : Int) / 16777216), .int .u8 ((p : Int) / 65536 % 256), .int .u8 ((p : Int) / 256 % 256), .int .u8 ((p : Int) % 256)] 5)) from
    Src.ofSlice (P := Tryz.prog) _ (size := 1) Tryz.underlying65 ⟨w.heap.size, 0, none⟩ 4 4 _ rfl (fun j u hu => by
      match j, hu with
      | 0, hu => simpa [Addr.add] using hu
      | 1, hu => simpa [Addr.add] using hu
      | 2, hu => simpa [Addr.add] using hu
      | 3, hu => simpa [Addr.add] using hu) (by simp [Value.oneCell']))
  have H1 := Lib.hid (show n + 4 ≤ maxLen by unfold maxLen; omega)
  have H2 := Lib.hid (show (n + 4) * 1 ≤ 140737488355328 by omega)
  clear hrow hbl
  go_enter Tryz.func103, Tryz.ntmps103
  go_wp2_with (at_builtin; refine wpList_append_row _ rfl _ _ 65 65 rfl 5 i0 _ 1 1 Tryz.underlying65 hi hz0 hzs hzb rfl (.slice a n cap) _ _ rfl HR.out _ rfl 4 _ HS.out H1.out H2.out ?_; intro v' w5 hrow5 hgrow5 hob5)
  go_ret
  refine ⟨v', rfl, hrow5, ⟨hgrow5.os.trans HG.out.os, hgrow5.tape.trans HG.out.tape, hgrow5.output.trans HG.out.output, Nat.le_trans HG.out.size hgrow5.size, fun k hk hr => (hgrow5.block k (Nat.lt_of_lt_of_le hk HG.out.size) hr).trans (HG.out.block k hk (by simp))⟩, ?_⟩
  rcases hob5 with e | ⟨e, -⟩
  · exact .inl e
  · exact .inr ⟨_, e, HG.out.size⟩
end Go.Proofs.YtopnbbchiglpoaaGreat

namespace Go.Proofs.YtopnbbchiglpoaaGreat
open Go.RowKit

theorem EntsAt.take {n0 : Nat} {w : World} {a : Option Addr} {len : Nat} {es : List Ent} (h : EntsAt n0 w a len es) (k : Nat) (hk : k ≤ len) : EntsAt n0 w a k (es.take k) := by
  refine ⟨by rw [List.length_take, h.1]; omega, ?_⟩
  rcases h.2 with h0 | ⟨b, off, e, h1, h2⟩
  · exact .inl (by omega)
  · refine .inr ⟨b, off, e, h1, fun i hi j u hu => h2 i (by rw [List.length_take] at hi; omega) j u (by rw [List.getElem_take] at hu; exact hu)⟩
theorem ordB_step (es : List Ent) (k : Nat) (hk : k < es.length) : ordB es (k + 1) = (ordB es k && folB (es.take k) (entAt es k)) := by
  have hl : (es.take k).length = k := by rw [List.length_take]; omega
  unfold folB
  rw [hl]
  show (ordB es k && (vldE (entAt es k) && _)) = _
  by_cases h0 : k = 0
  · subst h0; simp
  · have : entAt (es.take k) (k - 1) = entAt es (k - 1) := by
      unfold entAt
      rw [List.getElem?_take, if_pos (by omega)]
    rw [this]
set_option maxHeartbeats 8000000 in
set_option maxRecDepth 100000 in
theorem put_walk {w : World} (a : Option Addr) (len cap : Nat) (es : List Ent) (hE : EntsAt w.heap.size w a len es) (hlm : len ≤ 1000000) (hcap : len ≤ cap) (hok : ∀ x ∈ es, x.Ok)
    (hsz : (layB es).length ≤ 1000000)
    (CL : ∀ W, Below w.heap.size w W → ordB es len = true → Calls Tryz.prog 25 #[.slice a len cap] W fun e w' => e = .returned (.string ⟨(layB es).toArray⟩) ∧ Below W.heap.size W w') :
    Calls Tryz.prog 8 #[.slice a len cap] w fun e w' => e = .returned (putBV es) ∧ Below w.heap.size w w' := by
  have hll : es.length = len := hE.1
  have HE := Lib.hid hE
  have HOK := Lib.hid hok
  have HCL := Lib.hid CL
  have HSZ := Lib.hid hsz
  clear hE hok CL hsz
  go_enter Tryz.func8, Tryz.ntmps8
  go_wp2
  go_loopw [8] (fun iv wr => ∃ i : Nat, iv = .int .i64 (i : Int) ∧ i ≤ len ∧ Hid (ordB es i = true) ∧ Below w.heap.size w wr) (fun iv _ => len - (intOf iv).toNat)
  case atStart => exact ⟨0, rfl, Nat.zero_le _, rfl, Below.refl _ _⟩
  case round =>
    obtain ⟨i, rfl, hi, HORD, hbl⟩ := hrel
    have HBL := Lib.hid hbl
    by_cases hlt : i < len
    · obtain ⟨b, off, rfl, hblt, HCE⟩ : ∃ b off, a = some ⟨b, off, none⟩ ∧ b < w.heap.size ∧ ∃ x : Ent, es[i]? = some x ∧ ∀ j u, x.cells[j]? = some u → wr.cell? ⟨b, off + i * 4 + j, none⟩ = some u := by
        rcases (HE.out.below hbl).2 with h0 | ⟨b, off, e, h1, h2⟩
        · omega
        · exact ⟨b, off, e, h1, ⟨es[i]'(by omega), List.getElem?_eq_getElem (by omega), h2 i (by omega)⟩⟩
      obtain ⟨⟨K, SQ, NN, V⟩, hg, hc⟩ := HCE
      have o2 := HOK.out _ (List.mem_of_getElem? hg)
      have hgj : entAt es i = ⟨K, SQ, NN, V⟩ := by unfold entAt; rw [hg]; rfl
      have q0 : wr.cell? ⟨b, off + i * 4, none⟩ = some (.string K) := hc 0 _ rfl
      have q1 : wr.cell? ⟨b, off + i * 4 + 1, none⟩ = some (.int .u64 SQ) := hc 1 _ rfl
      have q2 : wr.cell? ⟨b, off + i * 4 + 2, none⟩ = some (.int .i64 NN) := hc 2 _ rfl
      have q3 : wr.cell? ⟨b, off + i * 4 + 3, none⟩ = some (.string V) := hc 3 _ rfl
      have hil : (i : Int) < (len : Int) := by omega
      have hil2 : (i : Int) ≤ (len : Int) := by omega
      clear hc hbl
      have hicap : (i : Int) ≤ (cap : Int) := by omega
      obtain ⟨W, hW⟩ : ∃ W, wr.alloc (.cells #[.string K, .int .u64 SQ, .int .i64 NN, .string V] 59) = W := ⟨_, rfl⟩
      have HBX := Lib.hid (show Boxe wr.heap.size K SQ NN V W by rw [← hW]; exact new_block _ _ rfl)
      have HBW := Lib.hid (show Below w.heap.size w W by rw [← hW]; exact HBL.out.alloc HBL.out.size _)
      have HF := Lib.hid (fun W' (hb : Below w.heap.size w W') => follows_any (w := W') w.heap.size hb.size (some ⟨b, off, none⟩) i cap (es.take i) ((HE.out.take i (by omega)).below hb) (by omega) (fun x hx => HOK.out x (List.mem_of_mem_take hx)) ⟨K, SQ, NN, V⟩ o2)
      unfold ev at HF
      simp only at HF
      have HST := Lib.hid (ordB_step es i (by omega))
      rw [HORD.out, Bool.true_and, hgj] at HST
      go_upto_region 4 with fail
      try rw [hW]
      generalize wr.heap.size = X at HBX ⊢
      have c0 : W.drew.cell? ⟨X, 0, none⟩ = some (.string K) := HBX.out.c0
      have c1 : W.drew.cell? ⟨X, 1, none⟩ = some (.int .u64 SQ) := HBX.out.c1
      have c2 : W.drew.cell? ⟨X, 2, none⟩ = some (.int .i64 NN) := HBX.out.c2
      have c3 : W.drew.cell? ⟨X, 3, none⟩ = some (.string V) := HBX.out.c3
      clear hW q0 q1 q2 q3 hg hgj o2 HORD
      generalize folB (es.take i) ⟨K, SQ, NN, V⟩ = F at HF HST
      cases F with
      | true =>
        go_region_held3 (fun w' => w'.cell? ⟨X, 0, none⟩ = some (.string K) ∧ w'.cell? ⟨X, 1, none⟩ = some (.int .u64 SQ) ∧ w'.cell? ⟨X, 2, none⟩ = some (.int .i64 NN) ∧ w'.cell? ⟨X, 3, none⟩ = some (.string V)) (first | assumption | with_reducible exact ⟨c0, c1, c2, c3⟩ | with_reducible exact ⟨kkB b6 c0, kkB b6 c1, kkB b6 c2, kkB b6 c3⟩ | go_keep)
          (first
          | (go_at_call 23; (with_reducible refine (HF.out _ HBW.out.drew).mono ?_); rintro e w6 ⟨rfl, b6⟩)
          | fail)
        all_goals go_wp2_with fail
        all_goals go_roundw
        all_goals first
          | exact ⟨i + 1, by go_num, by omega, HST, HBW.out.drew.trans (b6.mono HBW.out.size)⟩
          | (simp [intOf]; omega)
      | false =>
        have HR : Hid (putBV es = .tuple #[.string ⟨#[]⟩, .int .i64 1]) := by
          show _ = _
          unfold putBV
          rw [ordB_no HST.out (by omega)]
          rfl
        go_region_held3 (fun w' => w'.cell? ⟨X, 0, none⟩ = some (.string K) ∧ w'.cell? ⟨X, 1, none⟩ = some (.int .u64 SQ) ∧ w'.cell? ⟨X, 2, none⟩ = some (.int .i64 NN) ∧ w'.cell? ⟨X, 3, none⟩ = some (.string V)) (first | assumption | with_reducible exact ⟨c0, c1, c2, c3⟩ | with_reducible exact ⟨kkB b6 c0, kkB b6 c1, kkB b6 c2, kkB b6 c3⟩ | go_keep)
          (first
          | (go_at_call 23; (with_reducible refine (HF.out _ HBW.out.drew).mono ?_); rintro e w6 ⟨rfl, b6⟩)
          | fail)
        all_goals go_wp2_with fail
        all_goals go_ret2
        all_goals exact ⟨by rw [HR.out]; rfl, HBW.out.drew.trans (b6.mono HBW.out.size)⟩
    · obtain rfl : i = len := by omega
      have C1 := Lib.hid (HCL.out wr HBL.out HORD.out)
      obtain ⟨Z, hZ⟩ : ∃ Z : ByteArray, ⟨(layB es).toArray⟩ = Z := ⟨_, rfl⟩
      have hZd : Z.data.toList = layB es := by rw [← hZ]
      have hZs : Z.size ≤ 1000000 := by rw [← len_data', hZd]; exact HSZ.out
      rw [hZ] at C1
      have C2 := Lib.hid (fun W => seal_any Z W hZs)
      rw [hZd] at C2
      have HR : Hid (putBV es = .tuple #[.string ⟨(sealF (layB es)).toArray⟩, .int .i64 0]) := by
        show _ = _
        unfold putBV
        rw [hll, HORD.out]
        rfl
      clear HE HCL hZ hZd hbl
      go_wp2_with (first | (go_at_call 25; (with_reducible refine C1.out.mono ?_); rintro _ w2 ⟨rfl, b2⟩) | (go_at_call 24; (with_reducible refine (C2.out _).mono ?_); rintro _ w3 ⟨rfl, b3⟩) | fail)
      go_ret2
      exact ⟨by rw [HR.out]; rfl, (HBL.out.trans (b2.mono HBL.out.size)).trans (b3.mono (Nat.le_trans HBL.out.size b2.size))⟩
end Go.Proofs.YtopnbbchiglpoaaGreat
