/- Contract of okey.Put: the bytes of parts. -/
import Derived.Test.YtgoehmmmajdenaaGreatDoorK6
namespace Go.Proofs.YtgoehmmmajdenaaGreatDoor
open Go.RowKit

/-- The bytes of one part. -/
def layPart (p : Prt) : List UInt8 := if p.kind = 1 then key p.s else if p.kind = 2 then be p.n 8 else be (turn p.i) 8
def layAll (ps : List Prt) : List UInt8 := (ps.map layPart).flatten
theorem layAll_snoc (ps : List Prt) (p : Prt) : layAll (ps ++ [p]) = layAll ps ++ layPart p := by simp [layAll]
/-- A part that memory can hold. -/
def Prt.Fits (p : Prt) : Prop := p.n < 18446744073709551616 ∧ -9223372036854775808 ≤ p.i ∧ p.i ≤ 9223372036854775807 ∧ p.s.length ≤ 1000000
theorem layPart_length (p : Prt) : (layPart p).length ≤ 2 * p.s.length + 10 := by
  have h1 := key_length p.s
  have h2 := be_length p.n 8
  have h3 := be_length (turn p.i) 8
  unfold layPart
  repeat' split
  all_goals omega
theorem layAll_length : ∀ (ps : List Prt), (∀ p ∈ ps, p.Fits) → (layAll ps).length ≤ 2000010 * ps.length
  | [], _ => by simp [layAll]
  | p :: r, h => by
    have h1 := layPart_length p
    have h2 := layAll_length r (fun x hx => h x (by simp [hx]))
    have h3 := (h p (by simp)).2.2.2
    have e : layAll (p :: r) = layPart p ++ layAll r := by simp [layAll]
    rw [e, List.length_append, List.length_cons]
    omega

/-- A row of parts in memory. -/
def IsRowP (w : World) (a : Option Addr) (ps : List Prt) : Prop :=
  ps = [] ∨ ∃ b off, a = some ⟨b, off, none⟩ ∧ ∀ i (h : i < ps.length) j u, (ps[i]).cells[j]? = some u → w.cell? ⟨b, off + i * 4 + j, none⟩ = some u
/-- The four cells of one of them. -/
theorem row_cells {w : World} {b off : Nat} {ps : List Prt} (hc : ∀ i (h : i < ps.length) j u, (ps[i]).cells[j]? = some u → w.cell? ⟨b, off + i * 4 + j, none⟩ = some u) (i : Nat) (h : i < ps.length) :
    w.cell? ⟨b, off + i * 4, none⟩ = some (.int .i64 ps[i].kind) ∧ w.cell? ⟨b, off + i * 4 + 1, none⟩ = some (.string ⟨ps[i].s.toArray⟩) ∧ w.cell? ⟨b, off + i * 4 + 2, none⟩ = some (.int .u64 (ps[i].n : Int)) ∧ w.cell? ⟨b, off + i * 4 + 3, none⟩ = some (.int .i64 ps[i].i) :=
  ⟨hc i h 0 _ rfl, hc i h 1 _ rfl, hc i h 2 _ rfl, hc i h 3 _ rfl⟩

theorem write_list (w0 : World) (b : Nat) (acc l : List UInt8) (w : World) (h : Bld w0 b acc w) (hl : acc.length + l.length ≤ 140737488355328) :
    Calls Tryz.prog 25 #[.pointer (some ⟨b, 0, none⟩), .string ⟨l.toArray⟩] w fun e w' => e = .returned (.tuple #[.int .i64 (l.length : Nat), .nilIface]) ∧ Bld w0 b (acc ++ l) w' := write_any w0 b acc ⟨l.toArray⟩ w h hl
theorem text_list (s : List UInt8) (w : World) (hs : s.length < 4294967281) (hm : Max w) :
    Calls Tryz.prog 17 #[.string ⟨s.toArray⟩] w fun e w' => e = .returned (.string ⟨(key s).toArray⟩) ∧ Below w.heap.size w w' := text_any ⟨s.toArray⟩ w hs hm

set_option maxHeartbeats 2000000 in
set_option maxRecDepth 100000 in
theorem put_good (b off cap : Nat) (ps : List Prt) (w : World) (hm : Max w) (hlen : ps.length ≤ 1000000) (hgood : ∀ i (h : i < ps.length), i < ps.length → okKind ps[i].kind) (hfit : ∀ p ∈ ps, p.Fits)
    (hc : ∀ i (h : i < ps.length) j u, (ps[i]).cells[j]? = some u → w.cell? ⟨b, off + i * 4 + j, none⟩ = some u) (hb : b < w.heap.size) :
    Calls Tryz.prog 6 #[.slice (some ⟨b, off, none⟩) ps.length cap] w fun e w' => e = .returned (.tuple #[.string ⟨(layAll ps).toArray⟩, .int .i64 0]) ∧ Below w.heap.size w w' := by
  go_enter Tryz.func6, Tryz.ntmps6
  go_wp2
  go_loopw [9] (fun i wr => ∃ k : Nat, k ≤ ps.length ∧ i = .int .i64 k ∧ Bld w w.heap.size (layAll (ps.take k)) wr) (fun i _ => ps.length - (intOf i).toNat)
  case atStart => exact ⟨0, Nat.zero_le _, rfl, fresh_bld w⟩
  case round =>
    obtain ⟨k, hk, rfl, hbld⟩ := hrel
    by_cases hlt : k < ps.length
    · skip
      have hkl : k < ps.length := by omega
      obtain ⟨cx0, cx1, cx2, cx3⟩ := row_cells hc k hkl
      rw [← hbld.2.cell (by exact hb)] at cx0 cx1 cx2 cx3
      have hmx : Max wr := hm.below hbld.2 hm.lt
      have hf := hfit _ (List.getElem_mem hkl)
      have hok := hgood k hkl (by omega)
      have HT := Lib.hid (show layAll (ps.take (k + 1)) = layAll (ps.take k) ++ layPart ps[k] by rw [List.take_succ_eq_append_getElem hkl, layAll_snoc])
      have hl0 : (layAll (ps.take k)).length ≤ 2000010 * (ps.take k).length := layAll_length _ (fun p hp => hfit p (List.mem_of_mem_take hp))
      have hl1 : (layAll (ps.take k)).length + (layPart ps[k]).length ≤ 140737488355328 := by
        have h1 := layPart_length ps[k]
        have h2 : (ps.take k).length ≤ k := List.length_take_le _ _
        have h3 := hf.2.2.2
        omega
      have hbld1 : ∀ o, Bld w w.heap.size (layAll (ps.take k)) (wr.alloc o) := fun o => hbld.below ((Below.refl _ _).alloc (Nat.le_refl _) o)
      clear hl0
      generalize ps[k] = p at cx0 cx1 cx2 cx3 hf hok HT hl1
      obtain ⟨kd, sx, n, ii⟩ := p
      simp only at cx0 cx1 cx2 cx3 hok
      obtain ⟨hf1, hf2, hf3, hf4⟩ := hf
      simp only at hf1 hf2 hf3 hf4
      by_cases h1 : kd = 1
      · subst h1
        have HL := Lib.hid (show layPart ⟨1, sx, n, ii⟩ = key sx from rfl)
        rw [HL.out] at hl1
        go_wp2_with (first | (go_at_call 17; refine (text_list sx _ (by omega) (hmx.alloc _)).mono ?_; rintro e w1 ⟨rfl, hb1⟩; have hbld2 := (hbld1 _).below hb1) | (go_at_call 25; refine (write_list w _ _ _ _ hbld2 hl1).mono ?_; rintro e w2 ⟨rfl, hbld3⟩))
        go_roundw
        case rel =>
          refine ⟨k + 1, by omega, by go_num, ?_⟩
          rw [HT.out, HL.out]
          exact hbld3
        case measure => simp [intOf]; omega
      · have hd1 : (kd == 1) = false := by simpa using h1
        by_cases h2 : kd = 2
        · subst h2
          have HL := Lib.hid (show layPart ⟨2, sx, n, ii⟩ = be n 8 from rfl)
          rw [HL.out] at hl1
          go_wp2_with (first | (go_at_call 19; refine (num_any n _ hf1).mono ?_; rintro e w1 ⟨rfl, hb1⟩; have hbld2 := (hbld1 _).below hb1) | (go_at_call 25; refine (write_list w _ _ _ _ hbld2 hl1).mono ?_; rintro e w2 ⟨rfl, hbld3⟩))
          go_roundw
          case rel =>
            refine ⟨k + 1, by omega, by go_num, ?_⟩
            rw [HT.out, HL.out]
            exact hbld3
          case measure => simp [intOf]; omega
        · have h3 : kd = 3 := by have := hok.1; have := hok.2; omega
          subst h3
          have HL := Lib.hid (show layPart ⟨3, sx, n, ii⟩ = be (turn ii) 8 from rfl)
          rw [HL.out] at hl1
          go_wp2_with (first | (go_at_call 21; refine (int_any ii _ hf2 hf3).mono ?_; rintro e w1 ⟨rfl, hb1⟩; have hbld2 := (hbld1 _).below hb1) | (go_at_call 25; refine (write_list w _ _ _ _ hbld2 hl1).mono ?_; rintro e w2 ⟨rfl, hbld3⟩))
          go_roundw
          case rel =>
            refine ⟨k + 1, by omega, by go_num, ?_⟩
            rw [HT.out, HL.out]
            exact hbld3
          case measure => simp [intOf]; omega
    · have hke : k = ps.length := by omega
      subst hke
      rw [List.take_length] at hbld
      go_wp2_with (go_at_call 26; refine (string_any w _ _ _ hbld).mono ?_; rintro e w1 ⟨rfl, hb1⟩)
      go_ret2
      exact ⟨rfl, hb1⟩

set_option maxHeartbeats 2000000 in
set_option maxRecDepth 100000 in
theorem put_bad (b off cap j : Nat) (ps : List Prt) (w : World) (hm : Max w) (hlen : ps.length ≤ 1000000) (hj : j < ps.length) (hbad : ¬ okKind ps[j].kind) (hgood : ∀ i (h : i < ps.length), i < j → okKind ps[i].kind) (hfit : ∀ p ∈ ps, p.Fits)
    (hc : ∀ i (h : i < ps.length) j u, (ps[i]).cells[j]? = some u → w.cell? ⟨b, off + i * 4 + j, none⟩ = some u) (hb : b < w.heap.size) :
    Calls Tryz.prog 6 #[.slice (some ⟨b, off, none⟩) ps.length cap] w fun e w' => e = .returned (.tuple #[.string ⟨#[]⟩, .int .i64 1]) ∧ Below w.heap.size w w' := by
  go_enter Tryz.func6, Tryz.ntmps6
  go_wp2
  go_loopw [9] (fun i wr => ∃ k : Nat, k ≤ j ∧ i = .int .i64 k ∧ Bld w w.heap.size (layAll (ps.take k)) wr) (fun i _ => j - (intOf i).toNat)
  case atStart => exact ⟨0, Nat.zero_le _, rfl, fresh_bld w⟩
  case round =>
    obtain ⟨k, hk, rfl, hbld⟩ := hrel
    by_cases hlt : k < j
    · skip
      have hkl : k < ps.length := by omega
      obtain ⟨cx0, cx1, cx2, cx3⟩ := row_cells hc k hkl
      rw [← hbld.2.cell (by exact hb)] at cx0 cx1 cx2 cx3
      have hmx : Max wr := hm.below hbld.2 hm.lt
      have hf := hfit _ (List.getElem_mem hkl)
      have hok := hgood k hkl (by omega)
      have HT := Lib.hid (show layAll (ps.take (k + 1)) = layAll (ps.take k) ++ layPart ps[k] by rw [List.take_succ_eq_append_getElem hkl, layAll_snoc])
      have hl0 : (layAll (ps.take k)).length ≤ 2000010 * (ps.take k).length := layAll_length _ (fun p hp => hfit p (List.mem_of_mem_take hp))
      have hl1 : (layAll (ps.take k)).length + (layPart ps[k]).length ≤ 140737488355328 := by
        have h1 := layPart_length ps[k]
        have h2 : (ps.take k).length ≤ k := List.length_take_le _ _
        have h3 := hf.2.2.2
        omega
      have hbld1 : ∀ o, Bld w w.heap.size (layAll (ps.take k)) (wr.alloc o) := fun o => hbld.below ((Below.refl _ _).alloc (Nat.le_refl _) o)
      clear hl0
      generalize ps[k] = p at cx0 cx1 cx2 cx3 hf hok HT hl1
      obtain ⟨kd, sx, n, ii⟩ := p
      simp only at cx0 cx1 cx2 cx3 hok
      obtain ⟨hf1, hf2, hf3, hf4⟩ := hf
      simp only at hf1 hf2 hf3 hf4
      by_cases h1 : kd = 1
      · subst h1
        have HL := Lib.hid (show layPart ⟨1, sx, n, ii⟩ = key sx from rfl)
        rw [HL.out] at hl1
        go_wp2_with (first | (go_at_call 17; refine (text_list sx _ (by omega) (hmx.alloc _)).mono ?_; rintro e w1 ⟨rfl, hb1⟩; have hbld2 := (hbld1 _).below hb1) | (go_at_call 25; refine (write_list w _ _ _ _ hbld2 hl1).mono ?_; rintro e w2 ⟨rfl, hbld3⟩))
        go_roundw
        case rel =>
          refine ⟨k + 1, by omega, by go_num, ?_⟩
          rw [HT.out, HL.out]
          exact hbld3
        case measure => simp [intOf]; omega
      · have hd1 : (kd == 1) = false := by simpa using h1
        by_cases h2 : kd = 2
        · subst h2
          have HL := Lib.hid (show layPart ⟨2, sx, n, ii⟩ = be n 8 from rfl)
          rw [HL.out] at hl1
          go_wp2_with (first | (go_at_call 19; refine (num_any n _ hf1).mono ?_; rintro e w1 ⟨rfl, hb1⟩; have hbld2 := (hbld1 _).below hb1) | (go_at_call 25; refine (write_list w _ _ _ _ hbld2 hl1).mono ?_; rintro e w2 ⟨rfl, hbld3⟩))
          go_roundw
          case rel =>
            refine ⟨k + 1, by omega, by go_num, ?_⟩
            rw [HT.out, HL.out]
            exact hbld3
          case measure => simp [intOf]; omega
        · have h3 : kd = 3 := by have := hok.1; have := hok.2; omega
          subst h3
          have HL := Lib.hid (show layPart ⟨3, sx, n, ii⟩ = be (turn ii) 8 from rfl)
          rw [HL.out] at hl1
          go_wp2_with (first | (go_at_call 21; refine (int_any ii _ hf2 hf3).mono ?_; rintro e w1 ⟨rfl, hb1⟩; have hbld2 := (hbld1 _).below hb1) | (go_at_call 25; refine (write_list w _ _ _ _ hbld2 hl1).mono ?_; rintro e w2 ⟨rfl, hbld3⟩))
          go_roundw
          case rel =>
            refine ⟨k + 1, by omega, by go_num, ?_⟩
            rw [HT.out, HL.out]
            exact hbld3
          case measure => simp [intOf]; omega
    · have hke : k = j := by omega
      subst hke
      obtain ⟨cx0, cx1, cx2, cx3⟩ := row_cells hc k hj
      rw [← hbld.2.cell (by exact hb)] at cx0 cx1 cx2 cx3
      have hn : ps[k].kind ≠ 1 ∧ ps[k].kind ≠ 2 ∧ ps[k].kind ≠ 3 := by unfold okKind at hbad; omega
      generalize ps[k] = p at cx0 cx1 cx2 cx3 hn
      obtain ⟨kd, sx, n, ii⟩ := p
      simp only at cx0 cx1 cx2 cx3 hn
      have hd1 : (kd == 1) = false := by simpa using hn.1
      have hd2 : (kd == 2) = false := by simpa using hn.2.1
      have hd3 : (kd == 3) = false := by simpa using hn.2.2
      clear hn
      go_wp2
      go_ret2
      exact ⟨rfl, hbld.2.alloc hbld.2.size _⟩

set_option maxHeartbeats 1000000 in
set_option maxRecDepth 100000 in
theorem put_none (a : Option Addr) (cap : Nat) (w : World) :
    Calls Tryz.prog 6 #[.slice a 0 cap] w fun e w' => e = .returned (.tuple #[.string ⟨#[]⟩, .int .i64 0]) ∧ Below w.heap.size w w' := by
  have hbld := fresh_bld w
  go_enter Tryz.func6, Tryz.ntmps6
  go_wp2
  refine wp_loop_rounds 1 ?_
  rw [rounds_succ]
  go_wp2_with (go_at_call 26; refine (string_any w _ _ _ hbld).mono ?_; rintro e w1 ⟨rfl, hb1⟩)
  go_ret2
  exact ⟨rfl, hb1⟩

/-- What Put tells. -/
def putVal (ps : List Prt) : Value := if ∀ k ∈ ps.map Prt.kind, okKind k then .tuple #[.string ⟨(layAll ps).toArray⟩, .int .i64 0] else .tuple #[.string ⟨#[]⟩, .int .i64 1]
theorem put_any (a : Option Addr) (cap : Nat) (ps : List Prt) (w : World) (hm : Max w) (hlen : ps.length ≤ 1000000) (hfit : ∀ p ∈ ps, p.Fits) (hr : IsRowP w a ps) :
    Calls Tryz.prog 6 #[.slice a ps.length cap] w fun e w' => e = .returned (putVal ps) ∧ Below w.heap.size w w' := by
  rcases hr with rfl | ⟨b, off, rfl, hc⟩
  · exact put_none a cap w
  · rcases first_bad (ps.map Prt.kind) with h | ⟨j, hj, h1, h2⟩
    · rw [putVal, if_pos h]
      rcases Nat.eq_zero_or_pos ps.length with h0 | h0
      · obtain rfl := List.eq_nil_of_length_eq_zero h0
        exact put_none _ cap w
      · exact put_good b off cap ps w hm hlen (fun i hi _ => h _ (List.mem_map.2 ⟨_, List.getElem_mem hi, rfl⟩)) hfit hc (block_lt (row_cells hc 0 h0).1)
    · rw [putVal, if_neg (fun h => h1 (h _ (List.getElem_mem hj)))]
      have hj' : j < ps.length := by simpa using hj
      exact put_bad b off cap j ps w hm hlen hj' (by simpa using h1) (fun i hi hij => by
        have := h2 i (by simpa using hi) hij
        rw [List.getElem_map] at this
        exact this) hfit hc (block_lt (row_cells hc j hj').1)
end Go.Proofs.YtgoehmmmajdenaaGreatDoor
