/- The document's own readKey. -/
import Derived.Test.YtgoehmmmajdenaaGreatDoorQ2
import Derived.Test.YtgoehmmmajdenaaGreatDoorK6
namespace Go.Proofs.YtgoehmmmajdenaaGreatDoor
open Go.RowKit

theorem drop_at (s : ByteArray) (k : Nat) (h : k < s.size) : s.data.toList.drop k = s[k] :: s.data.toList.drop (k + 1) := List.drop_eq_getElem_cons (show k < s.data.toList.length from h)
theorem tail_from (s : ByteArray) (k : Nat) : s.extract k s.size = ⟨(s.data.toList.drop k).toArray⟩ := by
  apply ByteArray.ext
  rcases s with ⟨⟨l⟩⟩
  simp [ByteArray.data_extract, ByteArray.size]
  rw [List.take_of_length_le]
  simp

set_option maxHeartbeats 4000000 in
set_option maxRecDepth 100000 in
theorem refReadKey_any (s : ByteArray) (w : World) (hs : s.size < 4294967281) :
    Calls Tryz.prog 30 #[.string s] w fun e w' => e = .returned (cutVal (rdKey s.data.toList)) ∧ Below w.heap.size w w' := by
  obtain ⟨i0, hi, hz0, hz1, hz2⟩ := info_parts infoByte
  go_enter Tryz.func30, Tryz.ntmps30
  go_wp2
  go_loopw [5, 6] (fun vs i wr => ∃ (k : Nat) (acc : List UInt8), k ≤ s.size ∧ i = .int .i64 k ∧ acc.length ≤ k ∧ wr.ownsRow w.heap.size 5 1 vs acc.length (Lib.byteCells acc) ∧ Below w.heap.size w wr ∧ Hid (rdKey s.data.toList = pre acc (rdKey (s.data.toList.drop k))))
    (fun _ i _ => s.size - (intOf i).toNat)
  case atStart => exact ⟨0, [], Nat.zero_le _, rfl, Nat.le_refl _, World.ownsRow_nil _ _ _ _, Below.refl _ _, (pre_nil _).symm⟩
  case round =>
    obtain ⟨k, acc, hk, rfl, hacc, hown, hnx, HX⟩ := hrel
    have hsl : acc.length ≤ 4294967281 := by omega
    by_cases hlt : k < s.size
    · have HX1 := Lib.hid (HX.out.trans (by rw [drop_at s k hlt]))
      by_cases hz : s[k] = 0
      · have hz1' : s[k].toNat = 0 := by rw [hz]; rfl
        rw [hz] at HX1
        by_cases hlast : s.size ≤ k + 1
        · have hv := Lib.hid (show cutVal (rdKey s.data.toList) = .tuple #[.string ⟨#[]⟩, .string ⟨#[]⟩, .int .i64 5] by
            rw [HX1.out, List.drop_of_length_le (show s.data.toList.length ≤ k + 1 from hlast)]; rfl)
          have hq : (s.size : Int) ≤ (k : Int) + 1 := by omega
          go_wp2
          go_ret3
          exact ⟨hv.out.symm ▸ rfl, hnx⟩
        · have hl2 : k + 1 < s.size := by omega
          have HX2 := Lib.hid (HX1.out.trans (by rw [drop_at s (k + 1) hl2]))
          have hq : decide ((s.size : Int) ≤ (k : Int) + 1) = false := by simp; omega
          by_cases hd1 : s[k + 1] = 1
          · have hd1' : s[k + 1].toNat = 1 := by rw [hd1]; rfl
            have htl := tail_from s (k + 2)
            have hle : k + 2 ≤ s.size := by omega
            have hcv := conv_own hown rfl
            have hv := Lib.hid (show cutVal (rdKey s.data.toList) = .tuple #[.string ⟨acc.toArray⟩, .string ⟨(s.data.toList.drop (k + 2)).toArray⟩, .int .i64 0] by
              rw [HX2.out, hd1, rdKey, if_pos rfl, if_pos rfl]; simp [pre, cutVal])
            have hcv2 := conv_own (w := wr.drew) hown rfl
            go_wp2
            go_region
            all_goals go_wp2
            all_goals go_ret3
            all_goals
              rw [hv.out]
              refine ⟨?_, hnx.drew⟩
              first | rfl | (rw [htl]; rfl)
          · by_cases hd2 : s[k + 1] = 255
            · have hd2' : s[k + 1].toNat = 255 := by rw [hd2]; rfl
              have HX3 := Lib.hid (HX2.out.trans (by rw [hd2, rdKey, if_pos rfl, if_neg (by decide), if_pos rfl, pre_pre]))
              go_wp2_with (at_builtin; refine wpList_append_own _ rfl _ _ 68 rfl w.heap.size 5 i0 (.int .u8 0) 1 1 Tryz.underlying68 hi hz0 hz1 hz2 rfl (by decide) _ _ _ rfl (hown.alloc _) ⟨wr.heap.size, 0, none⟩ 1 1 [Value.int .u8 0] rfl rfl ?c1 ?c2 ?c3 ?c4 ?c5 ?_)
              case c1 =>
                intro j u hj
                match j, hj with
                | 0, hj => simp at hj; subst hj; simp [Addr.add]
              case c2 => intro u hu; simp at hu; subst hu; rfl
              case c3 => unfold maxLen; omega
              case c4 => omega
              case c5 => have := hnx.size; simp; omega
              intro v' w2 hown' hgrow _
              have hbel2 : Below w.heap.size w w2 := (hnx.alloc hnx.size _).grown hgrow (by have := hnx.size; simp; omega) (fun k hk => (hown.lt k hk).1)
              clear hgrow
              go_wp2
              go_roundw
              case rel =>
                refine ⟨k + 2, acc ++ [0], by omega, by go_num, by simp; omega, ?_, hbel2, HX3.out⟩
                rw [List.length_append, Lib.byteCells_append]
                exact hown'
              case measure => simp [intOf]; omega
            · have hb1 : ((s[k + 1].toNat : Int) == 1) = false := by
                simp
                intro e
                exact hd1 (UInt8.toNat_inj.1 (by have h9 : (1 : UInt8).toNat = 1 := rfl; omega))
              have hb2 : ((s[k + 1].toNat : Int) == 255) = false := by
                simp
                intro e
                exact hd2 (UInt8.toNat_inj.1 (by have h9 : (255 : UInt8).toNat = 255 := rfl; omega))
              have hv := Lib.hid (show cutVal (rdKey s.data.toList) = .tuple #[.string ⟨#[]⟩, .string ⟨#[]⟩, .int .i64 4] by
                rw [HX2.out, rdKey, if_pos rfl, if_neg hd1, if_neg hd2]; rfl)
              go_wp2
              go_ret3
              exact ⟨hv.out.symm ▸ rfl, hnx⟩
      · have hz1' : ((s[k].toNat : Int) == 0) = false := by
          simp
          intro e
          exact hz (UInt8.toNat_inj.1 e)
        have HX2 := Lib.hid (HX1.out.trans (by rw [rdKey_cons _ _ hz, pre_pre]))
        go_wp2_with (at_builtin; refine wpList_append_own _ rfl _ _ 68 rfl w.heap.size 5 i0 (.int .u8 0) 1 1 Tryz.underlying68 hi hz0 hz1 hz2 rfl (by decide) _ _ _ rfl (hown.alloc _) ⟨wr.heap.size, 0, none⟩ 1 1 [Value.int .u8 (s[k].toNat : Int)] rfl rfl ?c1 ?c2 ?c3 ?c4 ?c5 ?_)
        case c1 =>
          intro j u hj
          match j, hj with
          | 0, hj => simp at hj; subst hj; simp [Addr.add]
        case c2 => intro u hu; simp at hu; subst hu; rfl
        case c3 => unfold maxLen; omega
        case c4 => omega
        case c5 => have := hnx.size; simp; omega
        intro v' w2 hown' hgrow _
        have hbel2 : Below w.heap.size w w2 := (hnx.alloc hnx.size _).grown hgrow (by have := hnx.size; simp; omega) (fun k hk => (hown.lt k hk).1)
        clear hgrow
        go_wp2
        go_roundw
        case rel =>
          refine ⟨k + 1, acc ++ [s[k]], by omega, by go_num, by simp; omega, ?_, hbel2, HX2.out⟩
          rw [List.length_append, Lib.byteCells_append]
          exact hown'
        case measure => simp [intOf]; omega
    · have hke : k = s.size := by omega
      subst hke
      have hv := Lib.hid (show cutVal (rdKey s.data.toList) = .tuple #[.string ⟨#[]⟩, .string ⟨#[]⟩, .int .i64 5] by
        rw [HX.out, List.drop_of_length_le (show s.data.toList.length ≤ s.size from Nat.le_refl _)]; rfl)
      go_wp2
      go_ret3
      exact ⟨hv.out.symm ▸ rfl, hnx⟩
end Go.Proofs.YtgoehmmmajdenaaGreatDoor
