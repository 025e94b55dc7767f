/- The program: table's save, Write and Load over the files. -/
import Derived.Test.YtmnboiikopkaoaaGreatWX
import Derived.Test.YtmnboiikopkaoaaGreatTM
namespace Go.Proofs.YtmnboiikopkaoaaGreat
open Go.RowKit

section
variable {F : Nat → Prop} {B p n m : Nat} {s : St} {w : World}
theorem hs_crash0 (h : Hs F B p n m s w) (hN : n ≤ 100000) (hM : m ≤ 1000000000) (dir : Int) :
    Calls Tryz.prog 8 #[.pointer (some ⟨p, 0, none⟩), .int .i64 dir, .slice none 0 0] w fun e w' => e = .returned (.tuple #[]) ∧ Hs F B p n m (s.crash dir []) w' ∧ Below B w w' ∧ Kp F w w' := by
  have hB := h.size
  obtain ⟨r, h1, rfl, h3, h4, h5, h6⟩ := h
  refine (crash_any h1 h4 hN hM h5 dir _ [] (keep_nil _ _)).mono ?_
  rintro e w' ⟨rfl, hn'⟩
  exact ⟨rfl, Hs.next hB h3 rfl hn' (crash_lim h4 _ _) (crash_coh _ _ _) h6⟩
set_option maxHeartbeats 2000000 in
theorem save_any (h : Hs F B p 0 0 (St.new 0) w) (name data : ByteArray) (hnm : isNm name.data.toList = true) (hn : name.size ≤ 100) (hd : data.size ≤ 1000000) :
    Calls Tryz.prog 24 #[.pointer (some ⟨p, 0, none⟩), .string name, .string data] w fun e w' => e = .returned (.int .i64 0) ∧ Hs F B p 5 1000000 (Sft name.data.toList data.data.toList) w' ∧ Below B w w' ∧ Kp F w w' := by
  have hn' : name.size ≤ maxLen := by unfold maxLen; omega
  have C1 := Lib.hid (hs_create h (by omega) name hn')
  rw [s1t hnm] at C1
  have C2 := Lib.hid (fun (W : World) h => hs_append (w := W) (F := F) (B := B) (p := p) (n := 2) (m := 0) (s := ⟨true, true, 0, 1, -1, -1, [(name.data.toList, 0)], [], [⟨[], name.data.toList, some 0⟩], [⟨[], 0⟩]⟩) h (by omega) name hn' data (by omega) (by omega))
  rw [s2t] at C2
  have C3 := Lib.hid (fun (W : World) h => hs_sync (w := W) (F := F) (B := B) (p := p) (n := 3) (m := 0 + data.size) (s := ⟨true, true, 0, 2, -1, -1, [(name.data.toList, 0)], [], [⟨[], name.data.toList, some 0⟩], [⟨data.data.toList, 0⟩]⟩) h (by omega) name hn')
  rw [s3t] at C3
  have C4 := Lib.hid (fun (W : World) h => hs_syncDir (w := W) (F := F) (B := B) (p := p) (n := 4) (m := 0 + data.size) (s := ⟨true, true, 0, 3, -1, -1, [(name.data.toList, 0)], [], [⟨[], name.data.toList, some 0⟩], [⟨data.data.toList, data.data.toList.length⟩]⟩) h (by omega))
  rw [s4t] at C4
  simp only at C1 C2 C3 C4
  have hB := h.size
  clear h hnm hn hn'
  go_enter Tryz.func24, Tryz.ntmps24
  go_wp2_with fail
  go_at_call 57
  refine C1.out.mono ?_
  rintro _ w1 ⟨rfl, h1, b1, k1⟩
  have D2 := Lib.hid (C2.out w1 h1)
  have HB1 := Lib.hid b1
  have HK1 := Lib.hid k1
  clear C1 C2 h1 b1 k1
  go_wp2_with fail
  go_at_call 58
  refine D2.out.mono ?_
  rintro _ w2 ⟨rfl, h2, b2, k2⟩
  have D3 := Lib.hid (C3.out w2 h2)
  have HB2 := Lib.hid (HB1.out.trans b2)
  have HK2 := Lib.hid (HK1.out.trans k2)
  clear D2 C3 h2 b2 k2
  go_wp2_with fail
  go_at_call 59
  refine D3.out.mono ?_
  rintro _ w3 ⟨rfl, h3, b3, k3⟩
  have D4 := Lib.hid (C4.out w3 h3)
  have HB3 := Lib.hid (HB2.out.trans b3)
  have HK3 := Lib.hid (HK2.out.trans k3)
  clear D3 C4 h3 b3 k3
  go_wp2_with fail
  go_at_call 60
  refine D4.out.mono ?_
  rintro _ w4 ⟨rfl, h4, b4, k4⟩
  have HH := Lib.hid (h4.up (n' := 5) (m' := 1000000) (by omega) (by omega))
  have HB4 := Lib.hid (HB3.out.trans b4)
  have HK4 := Lib.hid (HK3.out.trans k4)
  clear D4 h4 b4 k4
  go_wp2_with fail
  go_ret
  exact ⟨rfl, HH.out, HB4.out, HK4.out⟩
/-- A Table as a value. -/
def tblV (num level size : Int) (a b : ByteArray) : Value := .agg #[.int .i64 num, .int .i64 level, .int .i64 size, .string a, .string b]
def BoxT (X : Nat) (w : World) : Prop := w.heap[X]? = some (.cells #[.int .i64 0, .int .i64 0, .int .i64 0, .string ⟨#[]⟩, .string ⟨#[]⟩] 28)
theorem BoxT.lt {X : Nat} (h : BoxT X w) : X < w.heap.size := (Array.getElem?_eq_some_iff.1 h).1
theorem BoxT.c {X : Nat} (h : BoxT X w) : w.cell? ⟨X, 0, none⟩ = some (.int .i64 0) ∧ w.cell? ⟨X, 1, none⟩ = some (.int .i64 0) ∧ w.cell? ⟨X, 2, none⟩ = some (.int .i64 0) ∧ w.cell? ⟨X, 3, none⟩ = some (.string ⟨#[]⟩) ∧ w.cell? ⟨X, 4, none⟩ = some (.string ⟨#[]⟩) := by
  refine ⟨?_, ?_, ?_, ?_, ?_⟩ <;> · unfold World.cell?; rw [show w.heap[X]? = _ from h]; rfl
/-- The five cells of a box, written. -/
def set5 (w : World) (X : Nat) (v0 v1 v2 v3 v4 : Value) : World := ((((w.setCell ⟨X, 0, none⟩ v0).setCell ⟨X, 1, none⟩ v1).setCell ⟨X, 2, none⟩ v2).setCell ⟨X, 3, none⟩ v3).setCell ⟨X, 4, none⟩ v4
theorem BoxT.set5 {X : Nat} (h : BoxT X w) (v0 v1 v2 v3 v4 : Value) : (set5 w X v0 v1 v2 v3 v4).cell? ⟨X, 0, none⟩ = some v0 ∧ (Go.Proofs.YtmnboiikopkaoaaGreat.set5 w X v0 v1 v2 v3 v4).cell? ⟨X, 1, none⟩ = some v1 ∧ (Go.Proofs.YtmnboiikopkaoaaGreat.set5 w X v0 v1 v2 v3 v4).cell? ⟨X, 2, none⟩ = some v2 ∧ (Go.Proofs.YtmnboiikopkaoaaGreat.set5 w X v0 v1 v2 v3 v4).cell? ⟨X, 3, none⟩ = some v3 ∧ (Go.Proofs.YtmnboiikopkaoaaGreat.set5 w X v0 v1 v2 v3 v4).cell? ⟨X, 4, none⟩ = some v4 := by
  unfold Go.Proofs.YtmnboiikopkaoaaGreat.set5
  obtain ⟨h0, h1, h2, h3, h4⟩ := h.c
  refine ⟨?_, ?_, ?_, ?_, ?_⟩
  · rw [World.cell?_setCell_other _ _ _ _ (by simp), World.cell?_setCell_other _ _ _ _ (by simp), World.cell?_setCell_other _ _ _ _ (by simp), World.cell?_setCell_other _ _ _ _ (by simp)]
    exact World.cell?_setCell_same _ _ _ h0
  · rw [World.cell?_setCell_other _ _ _ _ (by simp), World.cell?_setCell_other _ _ _ _ (by simp), World.cell?_setCell_other _ _ _ _ (by simp)]
    exact World.cell?_setCell_same _ _ _ ((World.cell?_setCell_other _ _ _ _ (by simp)).trans h1)
  · rw [World.cell?_setCell_other _ _ _ _ (by simp), World.cell?_setCell_other _ _ _ _ (by simp)]
    exact World.cell?_setCell_same _ _ _ ((World.cell?_setCell_other _ _ _ _ (by simp)).trans ((World.cell?_setCell_other _ _ _ _ (by simp)).trans h2))
  · rw [World.cell?_setCell_other _ _ _ _ (by simp)]
    exact World.cell?_setCell_same _ _ _ ((World.cell?_setCell_other _ _ _ _ (by simp)).trans ((World.cell?_setCell_other _ _ _ _ (by simp)).trans ((World.cell?_setCell_other _ _ _ _ (by simp)).trans h3)))
  · exact World.cell?_setCell_same _ _ _ ((World.cell?_setCell_other _ _ _ _ (by simp)).trans ((World.cell?_setCell_other _ _ _ _ (by simp)).trans ((World.cell?_setCell_other _ _ _ _ (by simp)).trans ((World.cell?_setCell_other _ _ _ _ (by simp)).trans h4))))
theorem set5_size (w : World) (X : Nat) (v0 v1 v2 v3 v4 : Value) : (set5 w X v0 v1 v2 v3 v4).heap.size = w.heap.size := by unfold set5; simp [World.setCell]
theorem set5_block (w : World) (X : Nat) (v0 v1 v2 v3 v4 : Value) (k : Nat) (hk : k ≠ X) : (set5 w X v0 v1 v2 v3 v4).heap[k]? = w.heap[k]? := by
  unfold set5
  rw [Below.heap_setCell _ _ _ _ hk, Below.heap_setCell _ _ _ _ hk, Below.heap_setCell _ _ _ _ hk, Below.heap_setCell _ _ _ _ hk, Below.heap_setCell _ _ _ _ hk]
theorem set5_below {B : Nat} {w0 : World} (h : Below B w0 w) (X : Nat) (hX : B ≤ X) (v0 v1 v2 v3 v4 : Value) : Below B w0 (set5 w X v0 v1 v2 v3 v4) :=
  ((((h.setCell (p := ⟨X, 0, none⟩) hX v0).setCell (p := ⟨X, 1, none⟩) hX v1).setCell (p := ⟨X, 2, none⟩) hX v2).setCell (p := ⟨X, 3, none⟩) hX v3).setCell (p := ⟨X, 4, none⟩) hX v4
theorem BoxT.f {X : Nat} (h : BoxT X w) (j : Nat) : w.frozen? ⟨X, j, none⟩ = false := by unfold World.frozen?; rw [show w.heap[X]? = _ from h]; simp
end
section
variable {F : Nat → Prop} {B p : Nat} {w : World}
theorem kp_box {G : Nat → Prop} {X : Nat} {w w' : World} (h : BoxT X w) (hk : Kp G w w') (hX : G X) : BoxT X w' := (hk X hX).trans h
set_option maxHeartbeats 8000000 in
set_option maxRecDepth 100000 in
theorem write_any (h : Hs F B p 0 0 (St.new 0) w) (b off len cap : Nat) (es : List Ent) (hE : EntsAt B w (some ⟨b, off, none⟩) len es) (hcap : len ≤ cap) (hF : FineT es) (num : Nat) (hnum : num < 100000000) (level : Int) (Z : ByteArray) (hZd : Z.data.toList = tabB es) :
    Calls Tryz.prog 7 #[.pointer (some ⟨p, 0, none⟩), .int .i64 (num : Int), .int .i64 level, .slice (some ⟨b, off, none⟩) len cap] w fun e w' => e = .returned (.tuple #[.agg #[.int .i64 (num : Int), .int .i64 level, .int .i64 (Z.size : Int), .string (keyT es 0), .string (keyT es (es.length - 1))], .int .i64 0]) ∧ Hs F B p 5 1000000 (Sft (nmT num) (tabB es)) w' ∧ Below B w w' := by
  have hB := h.size
  have hel := hE.1
  obtain ⟨-, -, hpos⟩ := numT_le hF
  obtain ⟨W, hW⟩ : ∃ W, w.alloc (.cells #[.int .i64 0, .int .i64 0, .int .i64 0, .string ⟨#[]⟩, .string ⟨#[]⟩] 28) = W := ⟨_, rfl⟩
  have hbW : Below w.heap.size w W := by rw [← hW]; exact (Below.refl _ _).alloc (Nat.le_refl _) _
  have hxW : BoxT w.heap.size W := by rw [← hW]; exact new_block _ _ rfl
  have hsW : w.heap.size < W.heap.size := hxW.lt
  obtain ⟨X, hX⟩ : ∃ X, w.heap.size = X := ⟨_, rfl⟩
  have hG : Hs (fun k => F k ∨ k = X) B p 0 0 (St.new 0) W := h.below hbW (fun k hk => hk.elim .inl (fun e => .inr ⟨by omega, by omega⟩))
  have CP := Lib.hid (tput_any (w := W) (some ⟨b, off, none⟩) len cap es ((hE.below (hbW.mono hB)).mono (Nat.le_trans hB hbW.size)) (by rw [← hel]; exact hF.few) hcap hF.ok hF.short)
  have hV : tabV es = .tuple #[.string Z, .int .i64 0] := by
    unfold tabV
    rw [if_pos ⟨hF.some', hF.ord⟩, ← hZd, ← arr_eq]
  rw [hV] at CP
  have CN := Lib.hid (fun W => tname_any (num : Int) W (by omega) (by omega))
  rw [show ((num : Int) % 100000000).toNat = num by omega] at CN
  obtain ⟨NM, hNM⟩ : ∃ NM : ByteArray, ⟨(116 :: dig8 num).toArray⟩ = NM := ⟨_, rfl⟩
  have hNMd : NM.data.toList = nmT num := by rw [← hNM]; rfl
  have hNMs : NM.size ≤ 100 := by rw [← len_data', hNMd]; exact (show (9 : Nat) ≤ 100 by omega)
  rw [hNM] at CN
  have hZs : Z.size ≤ 1000000 := by have := tabB_few hF; rw [← len_data', hZd]; omega
  have CS := Lib.hid (fun (W : World) (h : Hs (fun k => F k ∨ k = X) B p 0 0 (St.new 0) W) => save_any h NM Z (by rw [hNMd]; exact nmT_isNm num) hNMs hZs)
  rw [hNMd, hZd] at CS
  obtain ⟨m, hm⟩ : ∃ m, len = m + 1 := ⟨len - 1, by omega⟩
  have hmI : (len : Int) - 1 = (m : Int) := by omega
  have hmL : (m : Int) < (len : Int) := by omega
  have h0L : (0 : Int) < (len : Int) := by omega
  have hwm : IntKind.i64.wrap (m : Int) = (m : Int) := by have := hF.few; rw [IntKind.wrap_i64]; omega
  have hmN : m < len := by omega
  have h0N : 0 < len := by omega
  have HCL := Lib.hid (show ∀ W', Below B w W' → W'.cell? ⟨b, off, none⟩ = some (.string (keyT es 0)) ∧ W'.cell? ⟨b, off + m * 4, none⟩ = some (.string (keyT es m)) from fun W' hW' => by
    rcases (hE.below hW').2 with h0 | ⟨b', off', e, -, h2⟩
    · omega
    · cases e
      unfold keyT
      rw [entAt_get (show 0 < es.length by omega), entAt_get (show m < es.length by omega)]
      have := h2 0 (by omega) 0 _ rfl
      simp only [Nat.zero_mul, Nat.add_zero] at this
      exact ⟨this, h2 m (by omega) 0 _ rfl⟩)
  have h300 : ∀ i, i < es.length → (keyT es i).size ≤ 300 := fun i hi => (valid_parts (ordB_at hF.ord hi).1).1
  have K1 := Lib.hid (fun W => clone_any (keyT es 0) W (by have := h300 0 (by omega); omega))
  have K2 := Lib.hid (fun W => clone_any (keyT es m) W (by have := h300 m (by omega); omega))
  have HKM := Lib.hid (show keyT es (es.length - 1) = keyT es m by rw [hel, hm]; rfl)
  have hXb : X ≠ b := by
    rcases hE.2 with h0 | ⟨b', off', e, hlt, -⟩
    · omega
    · cases e; omega
  have HG := Lib.hid hG
  have HXW := Lib.hid hxW
  have HXE := Lib.hid hX
  have HBB := Lib.hid hB
  have HBW := Lib.hid (hbW.mono hB)
  rw [hX] at HXW
  have d1 : decide ((num : Int) < 0) = false := by simp
  have d2 : decide ((99999999 : Int) < (num : Int)) = false := by simp; omega
  have d3 : decide (99999999 < num) = false := by simp; omega
  generalize keyT es 0 = K0 at *
  generalize keyT es m = K1' at *
  clear h hE hF hV hNM hNMd hNMs hG hxW hbW hm h300 hel hX
  go_enter Tryz.func7, Tryz.ntmps7
  go_upto_region 1 with fail
  try rw [hW]
  try rw [HXE.out]
  clear hW
  go_wp2_with fail
  go_at_call 17
  refine CP.out.mono ?_
  rintro _ w2 ⟨rfl, b2⟩
  have HG2 := Lib.hid (HG.out.same b2)
  have HX2 := Lib.hid (show BoxT X w2 from (b2.block X HXW.out.lt).trans HXW.out)
  have HB2 := Lib.hid (HBW.out.trans (b2.mono HG.out.size))
  clear CP b2 HG HXW HBW
  go_wp2_with fail
  go_at_call 13
  refine (CN.out _).mono ?_
  rintro _ w3 ⟨rfl, b3⟩
  have HG3 := Lib.hid (HG2.out.same b3)
  have HX3 := Lib.hid (show BoxT X w3 from (b3.block X HX2.out.lt).trans HX2.out)
  have HB3 := Lib.hid (HB2.out.trans (b3.mono HG2.out.size))
  have D3 := Lib.hid (CS.out w3 HG3.out)
  clear CN b3 HG2 HX2 HB2
  go_wp2_with fail
  go_at_call 24
  refine D3.out.mono ?_
  rintro _ w4 ⟨rfl, g4, b4, k4⟩
  have HG4 := Lib.hid g4
  have HX4 := Lib.hid (kp_box HX3.out k4 (.inr rfl))
  have HB4 := Lib.hid (HB3.out.trans b4)
  obtain ⟨q0, q1⟩ := HCL.out w4 HB4.out
  have HQ := Lib.hid (show ∀ W', Below w4.heap.size w4 W' → W'.cell? ⟨b, off, none⟩ = some (.string K0) ∧ W'.cell? ⟨b, off + m * 4, none⟩ = some (.string K1') from fun W' hb => HCL.out W' (HB4.out.trans (hb.mono HG4.out.size)))
  have HXX := Lib.hid (show ∀ W', Below w4.heap.size w4 W' → BoxT X W' from fun W' hb => (hb.block X HX4.out.lt).trans HX4.out)
  clear D3 CS g4 b4 k4 HG3 HX3 HB3
  go_upto_region 9 with fail
  go_region_held3 (fun W' => W'.cell? ⟨b, off, none⟩ = some (.string K0) ∧ W'.cell? ⟨b, off + m * 4, none⟩ = some (.string K1')) (first | go_keep | exact HQ.out _ BB | exact HQ.out _ BA | exact HQ.out _ (Below.refl _ _).drew | (refine ⟨?_, ?_⟩ <;> (repeat rw [World.cell?_setCell_other _ _ _ _ (by simp; omega)]) <;> first | assumption | exact (HQ.out _ BB).1 | exact (HQ.out _ BB).2 | exact (HQ.out _ BA).1 | exact (HQ.out _ BA).2) | fail) (first | (go_at_call 25; (with_reducible refine (K1.out _).mono ?_); rintro _ wa ⟨rfl, ba⟩; have BA : Below w4.heap.size w4 wa := (by first | exact (Below.refl _ _).drew.trans ba | exact BB.trans (ba.mono BB.size)); have xa := (HXX.out wa BA).c; have xa0 := xa.1; have xa1 := xa.2.1; have xa2 := xa.2.2.1; have xa3 := xa.2.2.2.1; have xa4 := xa.2.2.2.2; have fa := (HXX.out wa BA).f; have fa0 := fa 0; have fa1 := fa 1; have fa2 := fa 2; have fa3 := fa 3; have fa4 := fa 4) | (go_at_call 25; (with_reducible refine (K2.out _).mono ?_); rintro _ wb ⟨rfl, bb⟩; have BB : Below w4.heap.size w4 wb := (by first | exact (Below.refl _ _).drew.trans bb | exact BA.trans (bb.mono BA.size)); have xb := (HXX.out wb BB).c; have xb0 := xb.1; have xb1 := xb.2.1; have xb2 := xb.2.2.1; have xb3 := xb.2.2.2.1; have xb4 := xb.2.2.2.2; have fb := (HXX.out wb BB).f; have fb0 := fb 0; have fb1 := fb 1; have fb2 := fb 2; have fb3 := fb 3; have fb4 := fb 4) | fail)
  all_goals go_wp2_with fail
  obtain ⟨c0, c1, c2, c3, c4⟩ := (HXX.out wb BB).set5 (.int .i64 (num : Int)) (.int .i64 level) (.int .i64 (Z.size : Int)) (.string K0) (.string K1')
  unfold Go.Proofs.YtmnboiikopkaoaaGreat.set5 at c0 c1 c2 c3 c4
  refine bodyPost_ret (by simp [results, Tryz.results7, go_sem, c0, c1, c2, c3, c4]; try rfl) rfl ?_
  refine ⟨by rw [HKM.out], ?_, ?_⟩
  · exact ((HG4.out.same BB).wrote (Nat.le_of_eq (set5_size wb X _ _ _ _ _).symm) (fun k _ hf => set5_block wb X _ _ _ _ _ k (fun e => hf (.inr e)))).fewer (fun k hk => .inl hk)
  · exact set5_below (HB4.out.trans (BB.mono HG4.out.size)) X (by have := HXE.out; have := HBB.out; omega) _ _ _ _ _
end
end Go.Proofs.YtmnboiikopkaoaaGreat
