/- The statements' nine versions. -/
import Derived.Test.YtmnboiikopkaoaaGreatTL
namespace Go.Proofs.YtmnboiikopkaoaaGreat
open Go.RowKit

def ent9 (i : Nat) : Ent := ⟨⟨[UInt8.ofNat (97 + i)].toArray⟩, 1, 1, ⟨#[]⟩⟩
def es9 : List Ent := (List.range 9).map ent9
theorem es9_take (i : Nat) (h : i < 9) : es9.take (i + 1) = es9.take i ++ [ent9 i] := by
  have : i = 0 ∨ i = 1 ∨ i = 2 ∨ i = 3 ∨ i = 4 ∨ i = 5 ∨ i = 6 ∨ i = 7 ∨ i = 8 := by omega
  rcases this with rfl | rfl | rfl | rfl | rfl | rfl | rfl | rfl | rfl <;> rfl
theorem conv9 (x : UInt8) (W : World) : (convert 78 9 (.slice (some ⟨W.heap.size, 0, none⟩) 1 1)).run Tryz.prog (W.alloc (.cells #[.int .u8 (x.toNat : Int)] 5)) = .ok (.string ⟨[x].toArray⟩) (W.alloc (.cells #[.int .u8 (x.toNat : Int)] 5)) :=
  run_convert_bytes_back (P := Tryz.prog) _ 78 9 5 ⟨W.heap.size, 0, none⟩ 1 [x] Tryz.underlying78 Tryz.underlying5 Tryz.underlying9 (fun j hj => by
    match j, hj with
    | 0, _ => simp [Addr.add])
set_option maxHeartbeats 4000000 in
set_option maxRecDepth 100000 in
theorem nine_any (w : World) : Calls Tryz.prog 18 #[] w fun e w' => ∃ v, e = .returned v ∧ Row w' 48 4 v es9.length (cellsE es9) ∧ Below w.heap.size w w' := by
  obtain ⟨i0, hi0, hz0, hzs, hzb⟩ := info_parts infoE5
  go_enter Tryz.func18, Tryz.ntmps18
  go_wp2
  go_loopw [1, 2] (fun lv iv wr => ∃ (i : Nat) (V : Value), V = lv ∧ iv = .int .i64 (i : Int) ∧ i ≤ 9 ∧ Row wr 48 4 V (es9.take i).length (cellsE (es9.take i)) ∧ (∀ k, ob V = some k → w.heap.size ≤ k) ∧ Below w.heap.size w wr) (fun _ iv _ => 9 - (intOf iv).toNat)
  case atStart => exact ⟨0, _, rfl, rfl, Nat.zero_le _, row_nil _ _ _, fun k hk => by simp [ob] at hk, Below.refl _ _⟩
  case round =>
    obtain ⟨i, V, rfl, rfl, hi9, hrow, hob, hbl⟩ := hrel
    have HOB := Lib.hid hob
    have HBL := Lib.hid hbl
    have HROW := Lib.hid hrow
    obtain ⟨av, cv, rfl, -, -⟩ := hrow.le
    clear hrow hob hbl
    have hl9 : (es9.take i).length ≤ 9 := by rw [List.length_take]; exact Nat.le_trans (Nat.min_le_right _ _) (by decide)
    by_cases hlt : i < 9
    · have hltI : (i : Int) < 9 := by omega
      obtain ⟨x, hx⟩ : ∃ x : UInt8, UInt8.ofNat (97 + i) = x := ⟨_, rfl⟩
      have hxn : (x.toNat : Int) = 97 + (i : Int) := by rw [← hx, UInt8.toNat_ofNat']; omega
      have HT := Lib.hid (es9_take i hlt)
      have hcv := fun W => conv9 x W
      have hent : ent9 i = ⟨⟨[x].toArray⟩, 1, 1, ⟨#[]⟩⟩ := by unfold ent9; rw [hx]
      rw [hent] at HT
      obtain ⟨K, hK⟩ : ∃ K : ByteArray, ⟨[x].toArray⟩ = K := ⟨_, rfl⟩
      rw [hK] at hcv HT
      have HRWB := Lib.hid (show ∀ w8, Below wr.heap.size wr w8 → Row (w8.alloc (.cells #[.string K, .int .u64 1, .int .i64 1, .string ⟨#[]⟩] 48)) 48 4 (.slice av (es9.take i).length cv) (es9.take i).length (cellsE (es9.take i)) from fun w8 h => row_below (row_below HROW.out h) ((Below.refl _ _).alloc (Nat.le_refl _) _))
      have HSRC := Lib.hid (show Src Tryz.prog 4 22 (.slice (some ⟨wr.heap.size + 1, 0, none⟩) 1 1) 1 (Ent.cells ⟨K, 1, 1, ⟨#[]⟩⟩) ((wr.alloc (.cells #[.int .u8 (97 + (i : Int))] 5)).alloc (.cells #[.string K, .int .u64 1, .int .i64 1, .string ⟨#[]⟩] 48)) by
        have := src_new ⟨K, 1, 1, ⟨#[]⟩⟩ (wr.alloc (.cells #[.int .u8 (97 + (i : Int))] 5))
        rw [show (wr.alloc (.cells #[.int .u8 (97 + (i : Int))] 5)).heap.size = wr.heap.size + 1 by simp] at this
        exact this)
      have HM := Lib.hid (show (es9.take i).length + 1 ≤ maxLen by unfold maxLen; omega)
      have HN := Lib.hid (show ((es9.take i).length + 1) * 48 ≤ 140737488355328 by omega)
      have hB1 : Below wr.heap.size wr (wr.alloc (.cells #[.int .u8 (97 + (i : Int))] 5)) := (Below.refl _ _).alloc (Nat.le_refl _) _
      have HBB := Lib.hid hB1
      have hcv1 := hcv wr
      rw [hxn] at hcv1
      clear hx hK hent hcv hB1 hxn
      generalize es9.take i = L at *
      go_wp2_with (at_builtin; refine wpList_append_row _ rfl _ _ 22 22 rfl 48 i0 _ 4 48 Tryz.underlying22 hi0 hz0 hzs hzb rfl (.slice av L.length cv) _ _ rfl (HRWB.out _ HBB.out) _ rfl 1 _ HSRC.out HM.out HN.out ?_; intro v' wz hrowz hgrowz hobz)
      have hb9 : Below wr.heap.size wr ((wr.alloc (.cells #[.int .u8 (97 + (i : Int))] 5)).alloc (.cells #[.string K, .int .u64 1, .int .i64 1, .string ⟨#[]⟩] 48)) := HBB.out.alloc HBB.out.size _
      have hb9s := hb9.size
      have hbls := HBL.out.size
      have HGZ := Lib.hid (show Below w.heap.size w wz from below_row (HBL.out.trans (hb9.mono HBL.out.size)) (Nat.le_refl _) hgrowz (fun k hk => HOB.out k hk))
      have HOZ := Lib.hid (show ∀ k, ob v' = some k → w.heap.size ≤ k from fun k hk => by
        rcases hobz with e | ⟨e, -⟩
        · exact HOB.out k (by rw [← e]; exact hk)
        · rw [e] at hk
          cases hk
          omega)
      have HWZ := Lib.hid (show Row wz 48 4 v' (L ++ [(⟨K, 1, 1, ⟨#[]⟩⟩ : Ent)]).length (cellsE (L ++ [(⟨K, 1, 1, ⟨#[]⟩⟩ : Ent)])) by
        rw [List.length_append, cellsE_append, show cellsE [(⟨K, 1, 1, ⟨#[]⟩⟩ : Ent)] = Ent.cells ⟨K, 1, 1, ⟨#[]⟩⟩ by simp [cellsE]]
        exact hrowz)
      clear hrowz hgrowz hobz hb9
      go_roundw
      case rel => exact ⟨i + 1, v', rfl, by go_num, by omega, by rw [HT.out]; exact HWZ.out, HOZ.out, HGZ.out⟩
      case measure => simp [intOf]; omega
    · obtain rfl : i = 9 := by omega
      rw [show es9.take 9 = es9 from rfl] at HROW ⊢
      go_wp2
      go_ret
      exact ⟨_, rfl, HROW.out, HBL.out⟩
end Go.Proofs.YtmnboiikopkaoaaGreat
