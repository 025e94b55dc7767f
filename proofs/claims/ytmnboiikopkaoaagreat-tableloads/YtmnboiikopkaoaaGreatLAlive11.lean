/- The first call of chapter 11, over what is asked of the program's table. -/
import Derived.Test.YtmnboiikopkaoaaGreatTN
import Derived.Test.YtmnboiikopkaoaaGreatTL
namespace Go.Proofs.YtmnboiikopkaoaaGreat
open Go.RowKit

theorem es9_fine : FineT es9 := by
  refine ⟨by decide, by decide +kernel, by decide, by decide +kernel, fun x hx => ?_⟩
  obtain ⟨i, hi, rfl⟩ := List.mem_map.1 hx
  refine ⟨?_, ?_, ?_, ?_, ?_, ?_⟩
  · show 1 ≤ maxLen; unfold maxLen; omega
  · show (0 : Int) ≤ 1; omega
  · show (1 : Int) ≤ _; omega
  · show _ ≤ (1 : Int); omega
  · show (1 : Int) ≤ _; omega
  · show 0 ≤ maxLen; exact Nat.zero_le _
theorem es9_i : findT es9 ⟨#[105]⟩ 9 = some ⟨⟨#[105]⟩, 1, 1, ⟨#[]⟩⟩ := by
  refine findT_at (k := 8) (by decide) (fun i hi hh => ?_) ⟨by rfl, by decide⟩
  have : i = 0 ∨ i = 1 ∨ i = 2 ∨ i = 3 ∨ i = 4 ∨ i = 5 ∨ i = 6 ∨ i = 7 := by omega
  have hk := congrArg (fun b : ByteArray => b.data.toList) hh.1
  rcases this with rfl | rfl | rfl | rfl | rfl | rfl | rfl | rfl <;> exact absurd hk (by decide +kernel)
set_option maxHeartbeats 8000000 in
set_option maxRecDepth 100000 in
theorem alive11 {Tbl : World → Nat → List Nat → List Ent → Nat → Prop} (T : TabC Tbl) (N7 : ∀ W : World, Calls Tryz.prog 13 #[.int .i64 7] W fun e w' => e = .returned (.string ⟨#[116, 48, 48, 48, 48, 48, 48, 48, 55]⟩) ∧ Below W.heap.size W w') (w : World) :
    Calls Tryz.prog 5 #[] w fun e w' => e = .returned (.bool true) ∧ Below w.heap.size w w' := by
  have HN7 := Lib.hid N7
  have C0 := Lib.hid (nine_any w)
  obtain ⟨Z, hZ, hZd⟩ : ∃ Z : ByteArray, tabV es9 = .tuple #[.string Z, .int .i64 0] ∧ Z.data.toList = tabB es9 := by
    refine ⟨⟨(tabB es9).toArray⟩, ?_, rfl⟩
    unfold tabV
    rw [if_pos ⟨es9_fine.some', es9_fine.ord⟩]
  clear N7
  go_enter Tryz.func5, Tryz.ntmps5
  go_wp2_with fail
  go_at_call 18
  refine C0.out.mono ?_
  rintro _ w1 ⟨v, rfl, hrow, b1⟩
  obtain ⟨a, cap, rfl, hE⟩ := row_ents hrow
  have hcap : es9.length ≤ cap := by
    obtain ⟨a2, c2, hv, h1, -⟩ := hrow.le
    cases hv
    exact h1
  have C1 := Lib.hid (T.put (w := w1) a es9.length cap es9 hE es9_fine.few hcap es9_fine.ok es9_fine.short)
  rw [hZ] at C1
  have HB1 := Lib.hid b1
  clear C0 hrow b1 hE hZ
  go_wp2_with fail
  go_at_call 17
  refine C1.out.mono ?_
  rintro _ w2 ⟨rfl, b2⟩
  have HB2 := Lib.hid (HB1.out.trans (b2.mono HB1.out.size))
  have C2 := Lib.hid (T.opens es9 Z w2 es9_fine hZd)
  clear C1 b2 HB1 hZd
  go_wp2_with fail
  go_at_call 19
  refine C2.out.mono ?_
  rintro _ w3 ⟨p, F, rfl, hT, hFw, b3⟩
  have HB3 := Lib.hid (HB2.out.trans (b3.mono HB2.out.size))
  have HFW := Lib.hid (show ∀ k ∈ F, w.heap.size ≤ k from fun k hk => Nat.le_trans HB2.out.size (hFw k hk))
  have CG := Lib.hid (T.get ⟨#[122, 122, 122]⟩ 9 hT (by omega) (by decide) (by omega))
  rw [show findT es9 ⟨#[122, 122, 122]⟩ 9 = none by decide +kernel, show ((9 : Nat) : Int) = 9 from rfl] at CG
  unfold foundV ev at CG
  clear C2 b3 hFw hT HB2
  go_wp2_with fail
  go_at_call 20
  refine CG.out.mono ?_
  rintro _ w4 ⟨F4, n4, rfl, hT4, -, -, hout, tu4, hF4⟩
  obtain rfl : n4 = 0 := hout (by decide +kernel)
  have HB4 := Lib.hid (show Below w.heap.size w w4 from HB3.out.trans (tu4.below HB3.out.size HFW.out))
  have HF4 := Lib.hid (show ∀ k ∈ F4, w.heap.size ≤ k from fun k hk => (hF4 k hk).elim (HFW.out k) (fun h => Nat.le_trans HB3.out.size h))
  go_upto_region 6 with fail
  obtain ⟨W5, hW5⟩ : ∃ W5, w4.alloc (.cells #[.string ⟨#[]⟩, .int .u64 0, .int .i64 0, .string ⟨#[]⟩] 48) = W5 := ⟨_, rfl⟩
  have hb5 : Below w4.heap.size w4 W5 := by rw [← hW5]; exact (Below.refl _ _).alloc (Nat.le_refl _) _
  rw [hW5]
  clear hW5
  have HB5 := Lib.hid (HB4.out.trans (hb5.mono HB4.out.size))
  have hT5 := T.below hT4 hb5
  have CR := Lib.hid (T.read hT5)
  rw [show ((0 : Nat) : Int) = 0 from rfl] at CR
  have CG2 := Lib.hid (T.get ⟨#[105]⟩ 9 hT5 (by omega) (by decide) (by omega))
  rw [es9_i, show ((9 : Nat) : Int) = 9 from rfl] at CG2
  unfold foundV ev at CG2
  clear CG HB3 HFW tu4 hT4 hF4 hout hb5 hT5
  go_upto_region 7 with (go_at_call 21; (with_reducible refine CR.out.mono ?_); rintro _ w6 ⟨rfl, rfl⟩)
  go_wp2_with fail
  go_at_call 20
  refine CG2.out.mono ?_
  rintro _ w7 ⟨F7, n7, rfl, hT7, -, -, -, tu7, hF7⟩
  have HB7 := Lib.hid (show Below w.heap.size w w7 from HB5.out.trans (tu7.below HB5.out.size HF4.out))
  go_upto_region 8 with fail
  obtain ⟨W8, hW8⟩ : ∃ W8, w7.alloc (.cells #[.string ⟨#[105]⟩, .int .u64 1, .int .i64 1, .string ⟨#[]⟩] 48) = W8 := ⟨_, rfl⟩
  have hb8 : Below w7.heap.size w7 W8 := by rw [← hW8]; exact (Below.refl _ _).alloc (Nat.le_refl _) _
  have hbx : Boxe w7.heap.size ⟨#[105]⟩ 1 1 ⟨#[]⟩ W8 := by rw [← hW8]; exact new_block _ _ rfl
  rw [hW8]
  have HB8 := Lib.hid (HB7.out.trans (hb8.mono HB7.out.size))
  have hT8 := T.below hT7 hb8
  have CE := Lib.hid (T.ends hT8)
  rw [show keyT es9 0 = ⟨#[97]⟩ from rfl, show keyT es9 (es9.length - 1) = ⟨#[105]⟩ from rfl] at CE
  have HT8 := Lib.hid hT8
  have HBX := Lib.hid hbx
  generalize w7.heap.size = X at HBX ⊢
  clear hW8 CG2 CR HB5 HF4 tu7 hT7 hF7 hb8 hT8 hbx HB7
  go_upto_region 9 with (go_at_call 14; (with_reducible refine CE.out.mono ?_); rintro _ w9 ⟨rfl, b9⟩)
  have HB9 := Lib.hid (HB8.out.trans (b9.mono HB8.out.size))
  have hT9 := T.below HT8.out b9
  have q0 : w9.cell? ⟨X, 0, none⟩ = some (.string ⟨#[105]⟩) := (HBX.out.below b9).c0
  have CB := Lib.hid (T.blocks hT9)
  have CL := Lib.hid (T.len hT9)
  rw [show ((numT es9 : Nat) : Int) = 2 from rfl] at CB
  rw [show ((es9.length : Nat) : Int) = 9 from rfl] at CL
  clear CE HB8 HT8 HBX b9 hT9
  go_wp2_with (first | (go_at_call 22; (with_reducible refine CB.out.mono ?_); rintro _ wA ⟨rfl, rfl⟩) | (go_at_call 23; (with_reducible refine CL.out.mono ?_); rintro _ wB ⟨rfl, rfl⟩) | (go_at_call 13; (with_reducible refine (HN7.out _).mono ?_); rintro _ wC ⟨rfl, bC⟩) | fail)
  go_ret
  exact ⟨rfl, HB9.out.trans (bC.mono HB9.out.size)⟩
end Go.Proofs.YtmnboiikopkaoaaGreat
