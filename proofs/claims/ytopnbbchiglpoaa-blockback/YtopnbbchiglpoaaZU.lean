/- The program: block.Put, where the versions are not right or not in order; and over lay. -/
import Derived.Test.YtopnbbchiglpoaaZA
namespace Go.Proofs.Ytopnbbchiglpoaa
open Go.RowKit

theorem EntsAt.take {n0 : Nat} {w : World} {a : Option Addr} {len : Nat} {es : List Ent} (h : EntsAt n0 w a len es) (k : Nat) (hk : k ≤ len) : EntsAt n0 w a k (es.take k) := by
  refine ⟨by rw [List.length_take, h.1]; omega, ?_⟩
  rcases h.2 with h0 | ⟨b, off, e, h1, h2⟩
  · exact .inl (by omega)
  · refine .inr ⟨b, off, e, h1, fun i hi j u hu => h2 i (by rw [List.length_take] at hi; omega) j u (by rw [List.getElem_take] at hu; exact hu)⟩
theorem ordB_step (es : List Ent) (k : Nat) (hk : k < es.length) : ordB es (k + 1) = (ordB es k && folB (es.take k) (entAt es k)) := by
  have hl : (es.take k).length = k := by rw [List.length_take]; omega
  unfold folB
  rw [hl]
  show (ordB es k && (vldE (entAt es k) && _)) = _
  by_cases h0 : k = 0
  · subst h0; simp
  · have : entAt (es.take k) (k - 1) = entAt es (k - 1) := by
      unfold entAt
      rw [List.getElem?_take, if_pos (by omega)]
    rw [this]
set_option maxHeartbeats 8000000 in
set_option maxRecDepth 100000 in
theorem put_walk {w : World} (a : Option Addr) (len cap : Nat) (es : List Ent) (hE : EntsAt w.heap.size w a len es) (hlm : len ≤ 1000000) (hcap : len ≤ cap) (hok : ∀ x ∈ es, x.Ok)
    (hsz : (layB es).length ≤ 1000000)
    (CL : ∀ W, Below w.heap.size w W → ordB es len = true → Calls Try.prog 16 #[.slice a len cap] W fun e w' => e = .returned (.string ⟨(layB es).toArray⟩) ∧ Below W.heap.size W w') :
    Calls Try.prog 7 #[.slice a len cap] w fun e w' => e = .returned (putBV es) ∧ Below w.heap.size w w' := by
  have hll : es.length = len := hE.1
  have HE := Lib.hid hE
  have HOK := Lib.hid hok
  have HCL := Lib.hid CL
  have HSZ := Lib.hid hsz
  clear hE hok CL hsz
  go_enter Try.func7, Try.ntmps7
  go_wp2
  go_loopw [8] (fun iv wr => ∃ i : Nat, iv = .int .i64 (i : Int) ∧ i ≤ len ∧ Hid (ordB es i = true) ∧ Below w.heap.size w wr) (fun iv _ => len - (intOf iv).toNat)
  case atStart => exact ⟨0, rfl, Nat.zero_le _, rfl, Below.refl _ _⟩
  case round =>
    obtain ⟨i, rfl, hi, HORD, hbl⟩ := hrel
    have HBL := Lib.hid hbl
    by_cases hlt : i < len
    · obtain ⟨b, off, rfl, hblt, HCE⟩ : ∃ b off, a = some ⟨b, off, none⟩ ∧ b < w.heap.size ∧ ∃ x : Ent, es[i]? = some x ∧ ∀ j u, x.cells[j]? = some u → wr.cell? ⟨b, off + i * 4 + j, none⟩ = some u := by
        rcases (HE.out.below hbl).2 with h0 | ⟨b, off, e, h1, h2⟩
        · omega
        · exact ⟨b, off, e, h1, ⟨es[i]'(by omega), List.getElem?_eq_getElem (by omega), h2 i (by omega)⟩⟩
      obtain ⟨⟨K, SQ, NN, V⟩, hg, hc⟩ := HCE
      have o2 := HOK.out _ (List.mem_of_getElem? hg)
      have hgj : entAt es i = ⟨K, SQ, NN, V⟩ := by unfold entAt; rw [hg]; rfl
      have q0 : wr.cell? ⟨b, off + i * 4, none⟩ = some (.string K) := hc 0 _ rfl
      have q1 : wr.cell? ⟨b, off + i * 4 + 1, none⟩ = some (.int .u64 SQ) := hc 1 _ rfl
      have q2 : wr.cell? ⟨b, off + i * 4 + 2, none⟩ = some (.int .i64 NN) := hc 2 _ rfl
      have q3 : wr.cell? ⟨b, off + i * 4 + 3, none⟩ = some (.string V) := hc 3 _ rfl
      have hil : (i : Int) < (len : Int) := by omega
      have hil2 : (i : Int) ≤ (len : Int) := by omega
      clear hc hbl
      have hicap : (i : Int) ≤ (cap : Int) := by omega
      obtain ⟨W, hW⟩ : ∃ W, wr.alloc (.cells #[.string K, .int .u64 SQ, .int .i64 NN, .string V] 34) = W := ⟨_, rfl⟩
      have HBX := Lib.hid (show Boxe wr.heap.size K SQ NN V W by rw [← hW]; exact new_block _ _ rfl)
      have HBW := Lib.hid (show Below w.heap.size w W by rw [← hW]; exact HBL.out.alloc HBL.out.size _)
      have HF := Lib.hid (fun W' (hb : Below w.heap.size w W') => follows_any (w := W') w.heap.size hb.size (some ⟨b, off, none⟩) i cap (es.take i) ((HE.out.take i (by omega)).below hb) (by omega) (fun x hx => HOK.out x (List.mem_of_mem_take hx)) ⟨K, SQ, NN, V⟩ o2)
      unfold ev at HF
      simp only at HF
      have HST := Lib.hid (ordB_step es i (by omega))
      rw [HORD.out, Bool.true_and, hgj] at HST
      go_upto_region 4 with fail
      try rw [hW]
      generalize wr.heap.size = X at HBX ⊢
      have c0 : W.drew.cell? ⟨X, 0, none⟩ = some (.string K) := HBX.out.c0
      have c1 : W.drew.cell? ⟨X, 1, none⟩ = some (.int .u64 SQ) := HBX.out.c1
      have c2 : W.drew.cell? ⟨X, 2, none⟩ = some (.int .i64 NN) := HBX.out.c2
      have c3 : W.drew.cell? ⟨X, 3, none⟩ = some (.string V) := HBX.out.c3
      clear hW q0 q1 q2 q3 hg hgj o2 HORD
      generalize folB (es.take i) ⟨K, SQ, NN, V⟩ = F at HF HST
      cases F with
      | true =>
        go_region_held3 (fun w' => w'.cell? ⟨X, 0, none⟩ = some (.string K) ∧ w'.cell? ⟨X, 1, none⟩ = some (.int .u64 SQ) ∧ w'.cell? ⟨X, 2, none⟩ = some (.int .i64 NN) ∧ w'.cell? ⟨X, 3, none⟩ = some (.string V)) (first | assumption | with_reducible exact ⟨c0, c1, c2, c3⟩ | with_reducible exact ⟨kkB b6 c0, kkB b6 c1, kkB b6 c2, kkB b6 c3⟩ | go_keep)
          (first
          | (go_at_call 14; (with_reducible refine (HF.out _ HBW.out.drew).mono ?_); rintro e w6 ⟨rfl, b6⟩)
          | fail)
        all_goals go_wp2_with fail
        all_goals go_roundw
        all_goals first
          | exact ⟨i + 1, by go_num, by omega, HST, HBW.out.drew.trans (b6.mono HBW.out.size)⟩
          | (simp [intOf]; omega)
      | false =>
        have HR : Hid (putBV es = .tuple #[.string ⟨#[]⟩, .int .i64 1]) := by
          show _ = _
          unfold putBV
          rw [ordB_no HST.out (by omega)]
          rfl
        go_region_held3 (fun w' => w'.cell? ⟨X, 0, none⟩ = some (.string K) ∧ w'.cell? ⟨X, 1, none⟩ = some (.int .u64 SQ) ∧ w'.cell? ⟨X, 2, none⟩ = some (.int .i64 NN) ∧ w'.cell? ⟨X, 3, none⟩ = some (.string V)) (first | assumption | with_reducible exact ⟨c0, c1, c2, c3⟩ | with_reducible exact ⟨kkB b6 c0, kkB b6 c1, kkB b6 c2, kkB b6 c3⟩ | go_keep)
          (first
          | (go_at_call 14; (with_reducible refine (HF.out _ HBW.out.drew).mono ?_); rintro e w6 ⟨rfl, b6⟩)
          | fail)
        all_goals go_wp2_with fail
        all_goals go_ret2
        all_goals exact ⟨by rw [HR.out]; rfl, HBW.out.drew.trans (b6.mono HBW.out.size)⟩
    · obtain rfl : i = len := by omega
      have C1 := Lib.hid (HCL.out wr HBL.out HORD.out)
      obtain ⟨Z, hZ⟩ : ∃ Z : ByteArray, ⟨(layB es).toArray⟩ = Z := ⟨_, rfl⟩
      have hZd : Z.data.toList = layB es := by rw [← hZ]
      have hZs : Z.size ≤ 1000000 := by rw [← len_data', hZd]; exact HSZ.out
      rw [hZ] at C1
      have C2 := Lib.hid (fun W => seal_any Z W hZs)
      rw [hZd] at C2
      have HR : Hid (putBV es = .tuple #[.string ⟨(sealF (layB es)).toArray⟩, .int .i64 0]) := by
        show _ = _
        unfold putBV
        rw [hll, HORD.out]
        rfl
      clear HE HCL hZ hZd hbl
      go_wp2_with (first | (go_at_call 16; (with_reducible refine C1.out.mono ?_); rintro _ w2 ⟨rfl, b2⟩) | (go_at_call 15; (with_reducible refine (C2.out _).mono ?_); rintro _ w3 ⟨rfl, b3⟩) | fail)
      go_ret2
      exact ⟨by rw [HR.out]; rfl, (HBL.out.trans (b2.mono HBL.out.size)).trans (b3.mono (Nat.le_trans HBL.out.size b2.size))⟩
end Go.Proofs.Ytopnbbchiglpoaa
