/- Contracts of package sum's Frame and Seal, and of the library's Builder as they use it. -/
import Derived.Test.YtlgcbapgbpofoaaGreatXS1
import Derived.Test.YtlgcbapgbpofoaaGreatB0
import Derived.Test.YtlgcbapgbpofoaaGreatXT1
import Derived.Test.YtlgcbapgbpofoaaGreatShelf
import Derived.Deep.RegionWith
import Derived.Deep.Draws
import Derived.BigQuiet
import Derived.Deep.QuietTactic
namespace Go.Proofs.YtlgcbapgbpofoaaGreat
open Go.RowKit

theorem builder_below {T e : TypeId} {B b : Nat} {bs : List Value} {w w' : World} (h : Lib.IsBuilder T e B b bs w) (hb : Below w.heap.size w w') : Lib.IsBuilder T e B b bs w' := by
  have one : ∀ p, Lib.BuilderAt T e B b p bs w → Lib.BuilderAt T e B b p bs w' := by
    intro p h
    have hlt := h.lt
    obtain ⟨hB, v, hv, hown, hne⟩ := h
    exact ⟨hB, v, (hb.block b hlt).trans hv, hown.kept (row := none) ⟨hb.os, hb.tape, hb.output, hb.size, fun k hk _ => hb.block k hk⟩ (Classical.em _), hne⟩
  exact h.elim (fun x => .inl (one _ x)) (fun x => .inr (one _ x))

/-- A builder of a call that began at w0, holding bytes. -/
def Bld (w0 : World) (b : Nat) (acc : List UInt8) (w : World) : Prop := Lib.IsBuilder 111 5 w0.heap.size b (Lib.byteCells acc) w ∧ Below w0.heap.size w0 w
theorem Bld.below {w0 w w' : World} {b : Nat} {acc : List UInt8} (h : Bld w0 b acc w) (hb : Below w.heap.size w w') : Bld w0 b acc w' := ⟨builder_below h.1 hb, h.2.trans (hb.mono h.2.size)⟩
theorem write_any (w0 : World) (b : Nat) (acc : List UInt8) (A : ByteArray) (w : World) (h : Bld w0 b acc w) (hl : acc.length + A.size ≤ 140737488355328) :
    Calls Tryz.prog 53 #[.pointer (some ⟨b, 0, none⟩), .string A] w fun e w' => e = .returned (.tuple #[.int .i64 A.size, .nilIface]) ∧ Bld w0 b (acc ++ A.data.toList) w' := by
  refine (Tryz.Builder_WriteString w0.heap.size b (Lib.byteCells acc) A w h.1 (by simpa [Lib.byteCells] using hl) h.2.size).mono ?_
  rintro e w1 ⟨rfl, hq, hb⟩
  refine ⟨rfl, .inr ?_, h.2.trans hb⟩
  rw [Lib.byteCells_append]
  exact hq
theorem string_any (w0 : World) (b : Nat) (acc : List UInt8) (w : World) (h : Bld w0 b acc w) :
    Calls Tryz.prog 58 #[.pointer (some ⟨b, 0, none⟩)] w fun e w' => e = .returned (.string ⟨acc.toArray⟩) ∧ Below w0.heap.size w0 w' := by
  refine (Tryz.Builder_String_any w0.heap.size b acc w h.1 h.2.size).mono ?_
  rintro e w1 ⟨rfl, hb⟩
  exact ⟨rfl, h.2.trans hb⟩
theorem grow_any (w : World) (n : Nat) (hn : n ≤ 281474976710656) :
    Calls Tryz.prog 212 #[.pointer (some ⟨w.heap.size, 0, none⟩), .int .i64 n] (w.alloc (Obj.cells #[Value.pointer none, Value.slice none 0 0] 111)) fun e w' => e = .returned (.tuple #[]) ∧ Bld w w.heap.size [] w' := by
  refine (Tryz.Builder_Grow_fresh w.heap.size w.heap.size n _ (Nat.le_refl _) (by simp [World.alloc, -World.alloc_eq]) (by simp) hn).mono ?_
  rintro e w1 ⟨rfl, hq, hb⟩
  exact ⟨rfl, .inr hq, ((Below.refl _ _).alloc (Nat.le_refl _) _).trans hb⟩

theorem crc_one (A : ByteArray) (b cap : Nat) (w : World) (hA : A.size ≤ maxLen) (h0 : w.cell? ⟨b, 0, none⟩ = some (.string A)) :
    Calls Tryz.prog 214 #[.slice (some ⟨b, 0, none⟩) 1 cap] w fun e w' => e = .returned (.int .u32 (crc A.data.toList : Nat)) ∧ w = w' := by
  have h := crc_rows b 0 cap [A] w (by simp) (by simpa using hA) (fun i hi => by
    match i, hi with
    | 0, _ => simpa using h0)
  simpa [cat] using h
theorem crc_two (A C : ByteArray) (b cap : Nat) (w : World) (hA : A.size ≤ maxLen) (hC : C.size ≤ maxLen) (h0 : w.cell? ⟨b, 0, none⟩ = some (.string A)) (h1 : w.cell? ⟨b, 1, none⟩ = some (.string C)) :
    Calls Tryz.prog 214 #[.slice (some ⟨b, 0, none⟩) 2 cap] w fun e w' => e = .returned (.int .u32 (crc (A.data.toList ++ C.data.toList) : Nat)) ∧ w = w' := by
  have h := crc_rows b 0 cap [A, C] w (by simp) (by simpa using ⟨hA, hC⟩) (fun i hi => by
    match i, hi with
    | 0, _ => simpa using h0
    | 1, _ => simpa using h1)
  simpa [cat] using h

def texts (ss : List ByteArray) : List (List UInt8) := ss.map fun s => s.data.toList
theorem texts_snoc (ss : List ByteArray) (s : ByteArray) : texts (ss ++ [s]) = texts ss ++ [s.data.toList] := by simp [texts]
theorem be_size (v n : Nat) : (⟨(be v n).toArray⟩ : ByteArray).size = n := by
  show (be v n).toArray.size = n
  rw [List.size_toArray, be_length]
theorem frames_length : ∀ (ss : List ByteArray), (frames (texts ss)).length = 8 * ss.length + total ss
  | [] => by simp [frames, texts, total]
  | s :: ss => by
    have := frames_length ss
    simp only [texts, List.map_cons] at *
    rw [frames_cons, List.length_append, frm_length, this]
    simp only [total, List.map_cons, List.sum_cons, List.length_cons]
    have : s.data.toList.length = s.size := rfl
    omega

set_option maxHeartbeats 2000000 in
set_option maxRecDepth 100000 in
theorem frame_rows (b off cap : Nat) (ss : List ByteArray) (w : World) (hb : b < w.heap.size) (hn : ss.length ≤ 100000) (ht : total ss ≤ 1000000)
    (hc : ∀ i (h : i < ss.length), w.cell? ⟨b, off + i, none⟩ = some (.string ss[i])) :
    Calls Tryz.prog 136 #[.slice (some ⟨b, off, none⟩) ss.length cap] w fun e w' => e = .returned (.string ⟨(frames (texts ss)).toArray⟩) ∧ Below w.heap.size w w' := by
  have HC := Lib.hid hc
  clear hc
  go_enter Tryz.func136, Tryz.ntmps136
  go_wp2
  go_loop [3, 12] (fun v i => ∃ k z : Nat, k ≤ ss.length ∧ i = .int .i64 k ∧ v = .int .i64 (z : Int) ∧ z ≤ 8 * k + total ss ∧ Hid (8 * k + total (ss.take k) = z)) (fun _ i => ss.length - (intOf i).toNat)
  case atStart => exact ⟨0, 0, Nat.zero_le _, rfl, rfl, by omega, by show _ = _; simp [total]⟩
  case round =>
    obtain ⟨k, z, hk, rfl, rfl, hz, HZ⟩ := hrel
    by_cases hlt : k < ss.length
    · have hcx := HC.out k hlt
      have hsz : ss[k].size ≤ total ss := total_mem (List.getElem_mem hlt)
      have HSN : Hid (8 * (k + 1) + total (ss.take (k + 1)) = z + (8 + ss[k].size)) := by
        show _ = _
        rw [List.take_succ_eq_append_getElem hlt, total_snoc, ← HZ.out]
        omega
      have hz2 := total_take_le ss (k + 1)
      have hz3 := HSN.out
      generalize ss[k] = s at hcx hsz HSN hz3
      clear HZ
      have hz4 : z + (8 + s.size) ≤ 8 * (k + 1) + total ss := by omega
      clear hz3 hz2
      go_wp2
      go_round
      case rel => exact ⟨k + 1, z + (8 + s.size), by omega, by go_num, by go_num, hz4, HSN⟩
      case measure => simp [intOf]; omega
    · clear HZ
      go_wp2_with (go_at_call 212; refine (grow_any w z (by omega)).mono ?_; rintro e w1 ⟨rfl, hbld0⟩)
      go_loopw [26] (fun i wr => ∃ (j : Nat) (acc : List UInt8), j ≤ ss.length ∧ i = .int .i64 j ∧ acc.length ≤ 8 * j + total ss ∧ Bld w w.heap.size acc wr ∧ Hid (acc = frames (texts (ss.take j)))) (fun i _ => ss.length - (intOf i).toNat)
      case atStart => exact ⟨0, [], Nat.zero_le _, rfl, by simp, hbld0, rfl⟩
      case round =>
        obtain ⟨j, acc, hj, rfl, hacc, hbld, HA⟩ := hrel
        by_cases hjl : j < ss.length
        · have hcx : wr.cell? ⟨b, off + j, none⟩ = some (.string ss[j]) := (hbld.2.cell (by exact hb)).trans (HC.out j hjl)
          have hsz : ss[j].size ≤ total ss := total_mem (List.getElem_mem hjl)
          have HSN : Hid (frames (texts (ss.take (j + 1))) = acc ++ frm ss[j].data.toList) := by
            show _ = _
            rw [List.take_succ_eq_append_getElem hjl, HA.out, texts_snoc, frames_snoc]
          have HL : Hid ((frames (texts (ss.take (j + 1)))).length ≤ 8 * (j + 1) + total ss) := by
            show _ ≤ _
            rw [frames_length, List.length_take]
            have := total_take_le ss (j + 1)
            omega
          generalize ss[j] = s at hcx hsz HSN
          have hl4 : (be s.size 4).length = 4 := be_length _ _
          have hm := Lib.hid (Nat.mod_eq_of_lt (show s.size < 4294967296 by omega))
          have hln : s.data.toList.length = s.size := rfl
          have hlay := Lib.hid (fun w' : World => lay_any s.size w' (by omega))
          obtain ⟨A, hA⟩ : ∃ A : ByteArray, A = ⟨(be s.size 4).toArray⟩ := ⟨_, rfl⟩
          have hAl : A.data.toList = be s.size 4 := by rw [hA]
          have hAs : A.size = 4 := by rw [hA, be_size]
          rw [← hA] at hlay
          have hcrc := Lib.hid (fun (w' : World) (b' : Nat) h0 h1 => crc_two A s b' 2 w' (by unfold maxLen; omega) (by unfold maxLen; omega) h0 h1)
          obtain ⟨c, hc⟩ : ∃ c, c = crc (A.data.toList ++ s.data.toList) := ⟨_, rfl⟩
          have hcl : c < 4294967296 := by rw [hc]; exact crc_lt _
          rw [← hc] at hcrc
          have hlay2 := Lib.hid (fun w' : World => lay_any c w' hcl)
          obtain ⟨C, hC⟩ : ∃ C : ByteArray, C = ⟨(be c 4).toArray⟩ := ⟨_, rfl⟩
          have hCl : C.data.toList = be c 4 := by rw [hC]
          have hCs : C.size = 4 := by rw [hC, be_size]
          rw [← hC] at hlay2
          have HSN2 : Hid (frames (texts (ss.take (j + 1))) = acc ++ A.data.toList ++ C.data.toList ++ s.data.toList) := by
            show _ = _
            rw [HSN.out]
            unfold frm
            rw [hln, hm.out, hCl, hc, hAl]
            simp
          have hlA : acc.length + A.size ≤ 140737488355328 := by omega
          have hlC : (acc ++ A.data.toList).length + C.size ≤ 140737488355328 := by rw [List.length_append, hAl, hl4]; omega
          have hlS : (acc ++ A.data.toList ++ C.data.toList).length + s.size ≤ 140737488355328 := by rw [List.length_append, List.length_append, hAl, hl4, hCl, be_length]; omega
          have HlA := Lib.hid hlA
          have HlC := Lib.hid hlC
          have HlS := Lib.hid hlS
          clear hC hA hc hm HSN HA hl4 hAl hAs hCl hCs hln hcl hlA hlC hlS
          go_wp2_with (first | (go_at_call 213; first | (with_reducible refine (hlay.out _).mono ?_; rintro e w1 ⟨rfl, hb1⟩; replace hbld := hbld.below hb1) | (refine (hlay2.out _).mono ?_; rintro e w2 ⟨rfl, hb2⟩; replace hbld := Bld.below (Bld.below hbld ((Below.refl _ _).alloc (Nat.le_refl _) _)) hb2)) | (go_at_call 214; refine (hcrc.out _ _ (by simp) (by simp)).mono ?_; rintro e w2 ⟨rfl, rfl⟩) | (go_at_call 53; refine (write_any w _ _ _ _ hbld (by first | exact HlA.out | exact HlC.out | exact HlS.out)).mono ?_; rintro e w2 ⟨rfl, hbld⟩))
          go_roundw
          case rel =>
            refine ⟨j + 1, _, by omega, by go_num, ?_, hbld, ?_⟩
            · rw [← HSN2.out]; exact HL.out
            · show _ = _; rw [HSN2.out]
          case measure => simp [intOf]; omega
        · have hje : j = ss.length := by omega
          have HF : Hid (acc = frames (texts ss)) := by show _ = _; rw [HA.out, hje, List.take_length]
          clear HA hje
          go_wp2_with (go_at_call 58; refine (string_any w _ _ _ hbld).mono ?_; rintro e w2 ⟨rfl, hb2⟩)
          go_ret
          have hf := HF.out
          subst hf
          exact ⟨rfl, hb2⟩
end Go.Proofs.YtlgcbapgbpofoaaGreat
