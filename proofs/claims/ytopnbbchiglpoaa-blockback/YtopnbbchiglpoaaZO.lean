/- The program: block.next. -/
import Derived.Test.YtopnbbchiglpoaaZM
import Derived.Test.YtopnbbchiglpoaaBV
namespace Go.Proofs.Ytopnbbchiglpoaa
open Go.RowKit

set_option maxHeartbeats 8000000 in
set_option maxRecDepth 100000 in
theorem next_any {w : World} {rb : Nat} {l : List UInt8} (A : ByteArray) (hA : A.size ≤ 300) (h : Rdr w rb l 0) :
    Calls Try.prog 37 #[.pointer (some ⟨rb, 0, none⟩), .string A] w fun e w' => e = .returned (ev (stP A.data.toList l).1.k (stP A.data.toList l).1.s (stP A.data.toList l).1.n (stP A.data.toList l).1.v) ∧ Rdr w' rb (stP A.data.toList l).2.1 (stP A.data.toList l).2.2 ∧ w.grownBy w' (some rb) := by
  have hcl := rdC_le (most := (A.size : Int)) l 0 (by omega)
  obtain ⟨c, hc⟩ : ∃ c, rdC (A.size : Int) l 0 = c := ⟨_, rfl⟩
  have HC := Lib.hid (fun W (hW : Rdr W rb l 0) => pr_count (A.size : Int) (by omega) hW)
  rw [hc] at HC hcl
  have hle3 := rdT_le (300 - (c.1 : Int)) c.2.1 c.2.2 (by omega)
  have HCT := Lib.hid (fun W (hW : Rdr W rb c.2.1 c.2.2) => pr_text (300 - (c.1 : Int)) (by omega) hW)
  obtain ⟨t, ht⟩ : ∃ t, rdT (300 - (c.1 : Int)) c.2.1 c.2.2 = t := ⟨_, rfl⟩
  rw [ht] at HCT hle3
  have HCS := Lib.hid (fun W (hW : Rdr W rb t.2.1 t.2.2) => pr_var hW)
  have hsb := rdV_bound t.2.1 t.2.2
  obtain ⟨sq, hsq⟩ : ∃ sq, rdV t.2.1 t.2.2 = sq := ⟨_, rfl⟩
  rw [hsq] at HCS hsb
  have HCN := Lib.hid (fun W (hW : Rdr W rb sq.2.1 sq.2.2) => pr_var hW)
  have hnb := rdV_bound sq.2.1 sq.2.2
  obtain ⟨nn, hnn⟩ : ∃ nn, rdV sq.2.1 sq.2.2 = nn := ⟨_, rfl⟩
  rw [hnn] at HCN hnb
  have HCV := Lib.hid (fun W (hW : Rdr W rb nn.2.1 nn.2.2) => pr_text 60000 (by omega) hW)
  obtain ⟨vv, hvv⟩ : ∃ vv, rdT 60000 nn.2.1 nn.2.2 = vv := ⟨_, rfl⟩
  rw [hvv] at HCV
  obtain ⟨TX, hTX⟩ : ∃ TX : ByteArray, ⟨t.1.toArray⟩ = TX := ⟨_, rfl⟩
  obtain ⟨VX, hVX⟩ : ∃ VX : ByteArray, ⟨vv.1.toArray⟩ = VX := ⟨_, rfl⟩
  rw [hTX] at HCT
  rw [hVX] at HCV
  have hTs : TX.size ≤ 300 := by rw [← hTX, str_size]; omega
  obtain ⟨AX, hAX⟩ : ∃ AX : ByteArray, A.extract 0 c.1 = AX := ⟨_, rfl⟩
  have hAXs : AX.size ≤ 300 := by rw [← hAX, ByteArray.size_extract]; omega
  have HJ := Lib.hid (fun W => join_any AX TX W (by omega) (by omega))
  obtain ⟨K, hK⟩ : ∃ K : ByteArray, AX ++ TX = K := ⟨_, rfl⟩
  rw [hK] at HJ
  obtain ⟨nk, hnk⟩ : ∃ nk : Int, IntKind.i64.wrap (nn.1 : Int) = nk := ⟨_, rfl⟩
  have HST := Lib.hid (show stP A.data.toList l = (⟨K, (sq.1 : Int), nk, VX⟩, vv.2.1, vv.2.2) by
    unfold stP
    rw [len_data']
    simp only [hc, ht, hsq, hnn, hvv, hnk, hVX]
    rw [show (⟨(A.data.toList.take c.1 ++ t.1).toArray⟩ : ByteArray) = K by
      rw [← hK, ← hAX, ← hTX]
      refine Go.WideShapes.bytes_inj ?_
      simp])
  rw [HST.out]
  simp only
  have HRD := Lib.hid h
  obtain ⟨w0, hw0⟩ : ∃ w0, w.alloc (.cells #[.string ⟨#[]⟩, .int .u64 0, .int .i64 0, .string ⟨#[]⟩] 34) = w0 := ⟨_, rfl⟩
  have HX0 := Lib.hid (show XB w0 w.heap.size Ent.zero by rw [← hw0]; exact XB.new w)
  have HR0 := Lib.hid (show Rdr w0 rb l 0 by rw [← hw0]; exact h.below ((Below.refl w.heap.size w).alloc (Nat.le_refl _) _) h.lt)
  have HG0 := Lib.hid (show w.grownBy w0 (some rb) by rw [← hw0]; exact growB_alloc (same_grown w _) _)
  have hXr : rb ≠ w.heap.size := fun e => by have := h.lt; omega
  have hXs : w.heap.size ≤ w.heap.size := Nat.le_refl _
  obtain ⟨X, hX⟩ : ∃ X, w.heap.size = X := ⟨_, rfl⟩
  rw [hX] at HX0 hXr
  have HXW := Lib.hid hX
  have hcA : (c.1 : Int) ≤ (A.size : Int) := hcl
  unfold ev
  clear hc ht hsq hnn hvv hTX hVX hle3 h hXs hX hK hcl
  go_enter Try.func37, Try.ntmps37
  go_upto_region 1 with fail
  try rw [hw0]
  try rw [HXW.out]
  clear hw0
  go_wp2_with (first
    | (go_at_call 49; (with_reducible refine (HC.out _ HR0.out).mono ?_); rintro e W1 ⟨rfl, i1, g1⟩)
    | (go_at_call 50; (with_reducible refine (HCT.out _ i1).mono ?_); rintro e W2 ⟨rfl, i2, g2⟩)
    | (go_at_call 51; (with_reducible refine (HJ.out _).mono ?_); rintro e W3 ⟨rfl, b3⟩; have i3 := i2.below b3 i2.lt)
    | (go_at_call 52; (with_reducible refine (HCS.out _ i3).mono ?_); rintro e W4 ⟨rfl, i4, g4⟩)
    | (go_at_call 52; (with_reducible refine (HCN.out _ i4).mono ?_); rintro e W5 ⟨rfl, i5, g5⟩)
    | (go_at_call 50; (with_reducible refine (HCV.out _ i5).mono ?_); rintro e W6 ⟨rfl, i6, g6⟩; have hne : some X ≠ some rb := (by simp; exact fun e => hXr e.symm); have x6 := ((((((HX0.out.grown g1 hne).grown g2 hne).grown (grownBy_of_below b3 none) (by simp)).grown g4 hne).grown g5 hne).grown g6 hne); have d0 := x6.c0; have d1 := x6.c1; have d2 := x6.c2; have d3 := x6.c3; have f0 := x6.f 0; have f1 := x6.f 1; have f2 := x6.f 2; have f3 := x6.f 3)
    | fail)
  have hsz : w.heap.size ≤ X := Nat.le_of_eq HXW.out
  have G6 : w.grownBy W6 (some rb) := grownBy_trans (grownBy_trans (grownBy_trans (grownBy_trans (grownBy_trans (grownBy_trans HG0.out g1) g2) (grownBy_of_below b3 _)) g4) g5) g6
  refine bodyPost_ret (by simp [results, Try.results37, go_sem, d0, d1, d2, d3]; try rfl) rfl ?_
  exact ⟨rfl, (((i6.set hXr _ _).set hXr _ _).set hXr _ _).set hXr _ _, growB_set (growB_set (growB_set (growB_set G6 hsz _ _) hsz _ _) hsz _ _) hsz _ _⟩
end Go.Proofs.Ytopnbbchiglpoaa
