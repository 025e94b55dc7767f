/- ikey's Shadow. -/
import Derived.Test.YthaalhigmihijaaE9
namespace Go.Proofs.Ythaalhigmihijaa
open Go.RowKit Go.Shelf

theorem infoE5 : (Try.prog.info? 29).map (fun i => (i.zero, i.size, i.bytes)) = some (some (.agg #[.string ⟨#[]⟩, .int .u64 0, .int .i64 0, .string ⟨#[]⟩]), 4, 48) := by kernel_rfl
/-- What is left of the first i versions. -/
def shad (es : List Ent) (zs : List Int) : Nat → List Ent
  | 0 => []
  | i + 1 => shad es zs i ++ (if 0 < seenAt es zs i then [es.getD i default] else [])
theorem shad_le (es : List Ent) (zs : List Int) : ∀ i, (shad es zs i).length ≤ i
  | 0 => Nat.le_refl _
  | i + 1 => by
    have := shad_le es zs i
    unfold shad
    split <;> simp <;> omega
def cellsE (l : List Ent) : List Value := l.flatMap Ent.cells
theorem cellsE_append (a b : List Ent) : cellsE (a ++ b) = cellsE a ++ cellsE b := by simp [cellsE]
theorem owns_below {P : Program} {k : TypeId} {R : Value → Option (DataW Unit × List MemPlace)} {W W' : World} {b n : Nat} {D : DataW Unit} (h : W.ownsMap P k R b n D) (hb : Below W.heap.size W W') : W'.ownsMap P k R b n D := by
  have hlt := h.lt
  obtain ⟨es, clock, h1, F, hs, hD⟩ := h
  exact ⟨es, clock, (hb.block b hlt).trans h1, F, hs, hD⟩
theorem row_below {w w' : World} {e : TypeId} {size : Nat} {v : Value} {n : Nat} {xs : List Value} (h : Row w e size v n xs) (hb : Below w.heap.size w w') : Row w' e size v n xs := h.kept fun k hk => hb.block k (h.lt k hk)
def Ent.Small (e : Ent) : Prop := e.k.size ≤ 281474976710656 ∧ e.v.size ≤ 281474976710656
set_option maxHeartbeats 4000000 in
set_option maxRecDepth 100000 in
theorem shadow_any (N : Nat) (hS : SortsU N) (a : Option Addr) (len cap : Nat) (es : List Ent) (pa : Option Addr) (plen pcap : Nat) (zs : List Int) (w : World) (hE : EntsAt w.heap.size w a len es) (hP : NumsAt w.heap.size w pa plen zs) (hl : len ≤ 1000000) (hp : plen ≤ 1000000) (hN : plen ≤ N) (hsm : ∀ x ∈ es, x.Small) :
    Calls Try.prog 10 #[.slice a len cap, .slice pa plen pcap] w fun e w' => ∃ v, e = .returned v ∧ Row w' 29 4 v (shad es zs len).length (cellsE (shad es zs len)) ∧ (∀ k, ob v = some k → w.heap.size ≤ k) ∧ Below w.heap.size w w' := by
  have hel := hE.1
  have C := Lib.hid (viewers_any N hS a len cap es pa plen pcap zs w hE hP hl hp hN)
  have HE := Lib.hid hE
  have HSM := Lib.hid hsm
  clear hE hP hsm
  obtain ⟨i0, hi, hz0, hzs, hzb⟩ := info_parts infoE5
  go_enter Try.func10, Try.ntmps10
  go_wp2_with (go_at_call 28; refine C.out.mono ?_; rintro e W1 ⟨mb, D, rfl, hown, hT, hmb, b1⟩)
  have HOW := Lib.hid (fun W (h : Below W1.heap.size W1 W) => owns_below hown h)
  have HEW := Lib.hid (fun W (h : Below W1.heap.size W1 W) => HE.out.below (b1.trans (h.mono b1.size)))
  clear hown
  go_loopw [6, 14] (fun ov iv wr => ∃ (i : Nat) (V : Value), V = ov ∧ iv = .int .i64 (i : Int) ∧ i ≤ len ∧ Row wr 29 4 V (shad es zs i).length (cellsE (shad es zs i)) ∧ (∀ k, ob V = some k → W1.heap.size ≤ k) ∧ Below W1.heap.size W1 wr) (fun _ iv _ => len - (intOf iv).toNat)
  case atStart => exact ⟨0, _, rfl, rfl, Nat.zero_le _, row_nil _ _ _, fun k hk => by simp [ob] at hk, Below.refl _ _⟩
  case round =>
    obtain ⟨i, V, rfl, rfl, hil0, hrow, hob, hbl⟩ := hrel
    by_cases hlt : i < len
    · obtain ⟨b, off, rfl, hblt, x, hget, hcell⟩ : ∃ b off, a = some ⟨b, off, none⟩ ∧ b < w.heap.size ∧ ∃ x : Ent, es[i]? = some x ∧ ∀ j u, x.cells[j]? = some u → wr.cell? ⟨b, off + i * 4 + j, none⟩ = some u := by
        rcases (HEW.out wr hbl).2 with h0 | ⟨b, off, e, h1, h2⟩
        · omega
        · exact ⟨b, off, e, h1, es[i]'(by omega), List.getElem?_eq_getElem (by omega), h2 i (by omega)⟩
      have hbr : b < wr.heap.size := by have := b1.size; have := hbl.size; omega
      have hsx := HSM.out x (List.mem_of_getElem? hget)
      obtain ⟨K, SQ, NN, V0⟩ := x
      have q0 : wr.cell? ⟨b, off + i * 4, none⟩ = some (.string K) := hcell 0 _ rfl
      have q1 : wr.cell? ⟨b, off + i * 4 + 1, none⟩ = some (.int .u64 SQ) := hcell 1 _ rfl
      have q2 : wr.cell? ⟨b, off + i * 4 + 2, none⟩ = some (.int .i64 NN) := hcell 2 _ rfl
      have q3 : wr.cell? ⟨b, off + i * 4 + 3, none⟩ = some (.string V0) := hcell 3 _ rfl
      have hgi : es.getD i default = ⟨K, SQ, NN, V0⟩ := by rw [List.getD_eq_getElem?_getD, hget]; rfl
      have hil : (i : Int) < (len : Int) := by omega
      have hse := hT i
      rw [if_pos hlt] at hse
      have HSE := Lib.hid hse
      have HSH := Lib.hid (show shad es zs (i + 1) = shad es zs i ++ (if 0 < seenAt es zs i then [⟨K, SQ, NN, V0⟩] else []) by rw [← hgi]; rfl)
      have hsl := shad_le es zs i
      have HBL := Lib.hid (show ∀ (o : Obj), Below W1.heap.size W1 (wr.alloc o) from fun o => hbl.alloc hbl.size o)
      have WFI := Lib.hid (show (Lit.int .i64 (i : Int)).wf = true from wf_i64 (by omega) (by omega))
      have CF := Lib.hid (fun W => fresh_any K SQ NN V0 W hsx.1 hsx.2)
      have HRW := Lib.hid hrow
      have HOB := Lib.hid hob
      have HBR := Lib.hid (show ∀ (o1 : Obj) (w3 : World) (o2 : Obj), Below (wr.alloc o1).heap.size (wr.alloc o1) w3 → Below wr.heap.size wr (w3.alloc o2) from fun o1 w3 o2 hb => by
        have h1 : Below wr.heap.size wr (wr.alloc o1) := (Below.refl _ _).alloc (Nat.le_refl _) _
        have h2 := h1.trans (hb.mono h1.size)
        exact h2.alloc h2.size _)
      have HSrc := Lib.hid (show ∀ w3 : World, Src Try.prog 4 22 (.slice (some ⟨w3.heap.size, 0, none⟩) 1 1) 1 [.string K, .int .u64 SQ, .int .i64 NN, .string V0] (w3.alloc (.cells #[.string K, .int .u64 SQ, .int .i64 NN, .string V0] 29)) from fun w3 => Src.ofSlice (P := Try.prog) _ (size := 4) Try.underlying22 ⟨w3.heap.size, 0, none⟩ 1 1 _ rfl (fun j u hu => by
        match j, hu with
        | 0, hu => simpa [Addr.add] using hu
        | 1, hu => simpa [Addr.add] using hu
        | 2, hu => simpa [Addr.add] using hu
        | 3, hu => simpa [Addr.add] using hu) (by simp [Value.oneCell']))
      have HB1 := Lib.hid (show (shad es zs i).length + 1 ≤ maxLen by unfold maxLen; omega)
      have HB2 := Lib.hid (show ((shad es zs i).length + 1) * 48 ≤ 140737488355328 by omega)
      clear hcell hget hgi hse hrow hob hsx
      unfold ev at CF
      generalize seenAt es zs i = SE at *
      by_cases hpos : 0 < SE
      · have d0 : decide (0 < SE) = true := decide_eq_true hpos
        rw [if_pos hpos] at HSH
        go_wp2_with (first
          | (at_lookup; refine wpList_lookup_own_int _ rfl _ _ 52 rfl 3 3 .i64 (Maps.int_keyed Try.underlying3) mapT9 Try.underlying3 (Try.zeroValue3 _) mb len D rfl (HOW.out _ (HBL.out _)) _ _ rfl (Maps.keyOf_int_mk Try.underlying3 WFI.out) ?_; intro c hat hwc; obtain rfl : c = SE := by (rw [HSE.out] at hat; cases hat; rfl))
          | (go_at_call 29; (with_reducible refine (CF.out _).mono ?_); rintro e w3 ⟨rfl, hb3⟩)
          | (at_builtin; refine wpList_append_row _ rfl _ _ 22 22 rfl 29 i0 _ 4 48 Try.underlying22 hi hz0 hzs hzb rfl V _ _ rfl (row_below HRW.out (HBR.out _ _ _ hb3)) _ rfl 1 _ (HSrc.out _) HB1.out HB2.out ?_; intro v' w5 hrow5 hgrow5 hob5)
          | fail)
        have hB4 := hbl.trans ((HBR.out _ _ (.cells #[.string K, .int .u64 SQ, .int .i64 NN, .string V0] 29) hb3).mono hbl.size)
        have hB5 : Below W1.heap.size W1 w5 := hB4.trans ((turn_of_grown (F := (ob V).toList) hgrow5 (fun k hk => .inl (by simp [hk]))).below hB4.size (fun k hk => HOB.out k (by simpa using hk)))
        go_roundw
        case rel =>
          refine ⟨i + 1, v', rfl, by go_num, by omega, by rw [HSH.out, List.length_append, cellsE_append]; exact hrow5, fun k hk => ?_, hB5⟩
          rcases hob5 with e | ⟨e, -⟩
          · exact HOB.out k (by rw [← e]; exact hk)
          · rw [e] at hk
            cases hk
            exact hB4.size
        case measure => simp [intOf]; omega
      · have d0 : decide (0 < SE) = false := decide_eq_false hpos
        rw [if_neg hpos, List.append_nil] at HSH
        go_wp2_with (first
          | (at_lookup; refine wpList_lookup_own_int _ rfl _ _ 52 rfl 3 3 .i64 (Maps.int_keyed Try.underlying3) mapT9 Try.underlying3 (Try.zeroValue3 _) mb len D rfl (HOW.out _ (HBL.out _)) _ _ rfl (Maps.keyOf_int_mk Try.underlying3 WFI.out) ?_; intro c hat hwc; obtain rfl : c = SE := by (rw [HSE.out] at hat; cases hat; rfl))
          | fail)
        go_roundw
        case rel => exact ⟨i + 1, V, rfl, by go_num, by omega, by rw [HSH.out]; exact row_below HRW.out ((Below.refl _ _).alloc (Nat.le_refl _) _), HOB.out, HBL.out _⟩
        case measure => simp [intOf]; omega
    · obtain rfl : i = len := by omega
      go_wp2
      go_ret
      exact ⟨V, rfl, hrow, fun k hk => by have := hob k hk; have := b1.size; omega, b1.trans (hbl.mono b1.size)⟩
end Go.Proofs.Ythaalhigmihijaa
