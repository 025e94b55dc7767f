/- The statements' first call, alive: it returns true. -/
import Derived.Test.YteejghhcmmocfaaS3
namespace Go.Proofs.Yteejghhcmmocfaa
open Go.RowKit

theorem scan_alive : scanF (frames [[97]] ++ [120]) = ([[97]], 9) := by
  have e : frames [[97]] ++ [120] = frm [97] ++ [120] := by rw [frames_cons]; simp [frames]
  rw [e, scanF_some (cutF_of [97] [120] (by decide))]
  have hd : (frm [97] ++ [120]).drop (8 + [(97 : UInt8)].length) = [120] := by rw [← frm_length, List.drop_left]
  rw [hd, scanF_none (by decide)]
  rfl
theorem open_alive (l : List UInt8) : openV (sealF l) = .tuple #[.string ⟨l.toArray⟩, .int .i64 0] := by
  have hl : (sealF l).length = l.length + 4 := by simp [sealF, be_length]
  have ht : (sealF l).take ((sealF l).length - 4) = l := by
    rw [hl, show l.length + 4 - 4 = l.length by omega]
    unfold sealF
    rw [List.take_append_of_le_length (Nat.le_refl _), List.take_length]
  have h := (open_seal (sealF l) (by omega)).1 (by rw [ht])
  unfold openV
  rw [if_neg (by omega), if_pos h, ht]
theorem crc_alive : crc ([49, 50, 51, 52] ++ [53, 54, 55, 56, 57]) = 3808858755 := by decide +kernel

set_option maxHeartbeats 2000000 in
set_option maxRecDepth 100000 in
theorem alive_any (w : World) :
    Calls Try.prog 8 #[] w fun e w' => e = .returned (.bool true) ∧ Below w.heap.size w w' := by
  have hfr := Lib.hid (fun (w' : World) hb hc => frame_rows w'.heap.size 0 1 [⟨#[97]⟩] (w'.alloc (.cells #[.string ⟨#[97]⟩] 9)) hb (by simp) (by simp [total, ByteArray.size]) hc)
  obtain ⟨F, hF⟩ : ∃ F : ByteArray, F = ⟨(frames (texts [⟨#[97]⟩])).toArray⟩ := ⟨_, rfl⟩
  rw [← hF] at hfr
  have hFl : F.data.toList = frames [[97]] := by rw [hF]; rfl
  have hFs : F.size = 9 := by rw [hF]; show (frames (texts [⟨#[97]⟩])).toArray.size = 9; rw [List.size_toArray, frames_length]; simp [total, ByteArray.size]
  have hFd : F.data.size = 9 := hFs
  obtain ⟨G, hG⟩ : ∃ G : ByteArray, F ++ ⟨#[120]⟩ = G := ⟨_, rfl⟩
  have hGl : G.data.toList = frames [[97]] ++ [120] := by rw [← hG, ByteArray.data_append, Array.toList_append, hFl]
  have hGs : G.size = 10 := by
    have : G.size = G.data.toList.length := rfl
    rw [this, hGl, ← hFl, List.length_append]
    show F.size + 1 = 10
    omega
  have hsc := Lib.hid (fun w' : World => scan_any G w' (by omega))
  rw [hGl, scan_alive] at hsc
  have hse := Lib.hid (fun w' : World => seal_any ⟨#[97, 98, 99]⟩ w' (by simp [ByteArray.size]))
  obtain ⟨S, hS⟩ : ∃ S : ByteArray, S = ⟨(sealF (⟨#[97, 98, 99]⟩ : ByteArray).data.toList).toArray⟩ := ⟨_, rfl⟩
  have hSl : S.data.toList = sealF [97, 98, 99] := by rw [hS]
  have hSs : S.size = 7 := by
    have : S.size = S.data.toList.length := rfl
    rw [this, hSl]
    simp [sealF, be_length]
  rw [← hS] at hse
  have hop := Lib.hid (fun w' : World => open_any S w' (by omega))
  rw [hSl, open_alive] at hop
  have hcr := Lib.hid (fun (w' : World) (b' : Nat) h0 h1 => crc_two ⟨#[49, 50, 51, 52]⟩ ⟨#[53, 54, 55, 56, 57]⟩ b' 2 w' (by unfold maxLen; simp [ByteArray.size]) (by unfold maxLen; simp [ByteArray.size]) h0 h1)
  rw [show (⟨#[49, 50, 51, 52]⟩ : ByteArray).data.toList ++ (⟨#[53, 54, 55, 56, 57]⟩ : ByteArray).data.toList = [49, 50, 51, 52] ++ [53, 54, 55, 56, 57] from rfl, crc_alive] at hcr
  clear hS hSl hSs hGl hGs hF hFl
  go_enter Try.func8, Try.ntmps8
  go_wp2_with (first | (go_at_call 10; refine (hfr.out _ (by simp) (fun i hi => by match i, hi with | 0, _ => simp)).mono ?_; rintro e w1 ⟨rfl, hb1⟩) | (go_at_call 30; refine (hsc.out _).mono ?_; rintro e w2 ⟨v, rfl, hrow, hb2⟩))
  rcases hrow.slice with ⟨-, h0, -⟩ | ⟨g, cap, hv, hgb, -, hgl, -⟩
  · cases h0
  · have hc0 := hrow.cell hgb 0 _ rfl
    change v = .slice (some ⟨g, 0, none⟩) 1 cap at hv
    subst hv
    have hgl2 := hb2.size
    have hgl1 := hb1.size
    simp at hgl1
    clear hrow hgb
    go_wp2_with (first | (go_at_call 32; refine (hse.out _).mono ?_; rintro e w3 ⟨rfl, hb3⟩; have hc3 := (hb3.cell (p := ⟨g, 0, none⟩) hgl).trans hc0) | (go_at_call 31; refine (hop.out _).mono ?_; rintro e w4 ⟨rfl, hb4⟩; have hc4 := (hb4.cell (p := ⟨g, 0, none⟩) (by have := hb3.size; show g < _; omega)).trans hc3; have hc5 : ∀ o, (w4.alloc o).cell? ⟨g, 0, none⟩ = some (.string ⟨#[97]⟩) := fun o => (((Below.refl w4.heap.size w4).alloc (Nat.le_refl _) o).cell (p := ⟨g, 0, none⟩) (by have := hb3.size; have := hb4.size; show g < _; omega)).trans hc4) | (go_at_call 9; refine (hcr.out _ _ (by simp) (by simp)).mono ?_; rintro e w5 ⟨rfl, rfl⟩))
    go_ret
    refine ⟨rfl, ?_⟩
    have h1 := (((Below.refl _ _).alloc (Nat.le_refl _) _).trans (hb1.mono (by simp)) : Below w.heap.size w w1)
    have h2 := h1.trans (hb2.mono h1.size)
    have h3 := h2.trans (hb3.mono h2.size)
    have h4 := h3.trans (hb4.mono h3.size)
    exact h4.alloc h4.size _
end Go.Proofs.Yteejghhcmmocfaa
