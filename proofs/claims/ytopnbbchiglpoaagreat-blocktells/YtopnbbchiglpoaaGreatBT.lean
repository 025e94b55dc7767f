/- The document's own GetBlock: where the bytes tell no versions' bytes. -/
import Derived.Test.YtopnbbchiglpoaaGreatBD
import Derived.Test.YtopnbbchiglpoaaGreatBE
import Derived.Test.YtopnbbchiglpoaaGreatRS
namespace Go.Proofs.YtopnbbchiglpoaaGreat
open Go.RowKit

/-- What GetBlock answers. -/
def GotB (b : List UInt8) (w : World) (x : Ending) (w' : World) : Prop :=
  ∃ v, x = .returned (.tuple #[v, .int .i64 (getE b).1]) ∧ Row w' 59 4 v (getE b).2.length (cellsE (getE b).2) ∧ ((getE b).2 = [] → v = .slice none 0 0) ∧ (∀ k, ob v = some k → w.heap.size ≤ k) ∧ Below w.heap.size w w'
theorem GotB.none {b : List UInt8} {w w' : World} {e : Int} (h : getE b = (e, [])) (hb : Below w.heap.size w w') : GotB b w (.returned (.tuple #[.slice none 0 0, .int .i64 e])) w' := by
  unfold GotB
  rw [h]
  exact ⟨_, rfl, row_nil _ _ _, fun _ => rfl, fun k hk => by simp [ob] at hk, hb⟩
theorem openV_cases (b : List UInt8) : (∃ e, e ≠ 0 ∧ openV b = .tuple #[.string ⟨#[]⟩, .int .i64 e] ∧ getBody b = (e, [])) ∨ (4 ≤ b.length ∧ openV b = .tuple #[.string ⟨(b.take (b.length - 4)).toArray⟩, .int .i64 0] ∧ getBody b = (if b.length < 8 then (4, []) else if (b.length - 8) / 4 < beVal ((b.take (b.length - 4)).drop (b.length - 8)) then (4, []) else (0, b.take (b.length - 8 - 4 * beVal ((b.take (b.length - 4)).drop (b.length - 8)))))) := by
  unfold openV getBody
  by_cases h : b.length < 4
  · exact .inl ⟨5, by decide, by rw [if_pos h], by rw [if_pos h]⟩
  · rw [if_neg h, if_neg h]
    by_cases hc : crc (b.take (b.length - 4)) = beVal (b.drop (b.length - 4))
    · exact .inr ⟨by omega, by rw [if_pos hc], by rw [if_pos hc]⟩
    · exact .inl ⟨6, by decide, by rw [if_neg hc], by rw [if_neg hc]⟩
set_option maxHeartbeats 1000000 in
theorem rget_err (b : ByteArray) (w : World) (h : b.size ≤ 1000000) {e : Int} (he : e ≠ 0) (ho : openV b.data.toList = .tuple #[.string ⟨#[]⟩, .int .i64 e]) (hg : getE b.data.toList = (e, [])) :
    Calls Tryz.prog 11 #[.string b] w (GotB b.data.toList w) := by
  have CO := Lib.hid (refOpen_any b w h)
  rw [ho] at CO
  go_enter Tryz.func11, Tryz.ntmps11
  go_wp2_with (go_at_call 33; refine CO.out.mono ?_; rintro _ w1 ⟨rfl, b1⟩)
  go_ret2
  exact GotB.none hg b1
set_option maxHeartbeats 1000000 in
theorem rget_short (b s : ByteArray) (w : World) (h : b.size ≤ 1000000) (ho : openV b.data.toList = .tuple #[.string s, .int .i64 0]) (hs : s.size < 4) (hg : getE b.data.toList = (4, [])) :
    Calls Tryz.prog 11 #[.string b] w (GotB b.data.toList w) := by
  have CO := Lib.hid (refOpen_any b w h)
  rw [ho] at CO
  have CU := Lib.hid (fun W => refUnfix_arg s ((s.size : Int) - 4) 4 W (by omega))
  go_enter Tryz.func11, Tryz.ntmps11
  go_wp2_with (first | (go_at_call 33; refine CO.out.mono ?_; rintro _ w1 ⟨rfl, b1⟩) | (go_at_call 34; refine (CU.out _).mono ?_; rintro _ w2 ⟨rfl, rfl⟩) | fail)
  go_ret2
  exact GotB.none hg b1
set_option maxHeartbeats 1000000 in
theorem rget_cnt (b s : ByteArray) (w : World) (h : b.size ≤ 1000000) (ho : openV b.data.toList = .tuple #[.string s, .int .i64 0]) (hs : 4 ≤ s.size) (hsm : s.size ≤ 1000000) (n : Nat) (hn : beVal (piece s (s.size - 4) 4) = n) (hgt : (s.size - 4) / 4 < n) (hg : getE b.data.toList = (4, [])) :
    Calls Tryz.prog 11 #[.string b] w (GotB b.data.toList w) := by
  have CO := Lib.hid (refOpen_any b w h)
  rw [ho] at CO
  have CU := Lib.hid (fun W => refUnfix_ok s (s.size - 4) 4 W (by omega) (by omega) (by omega) (by omega))
  rw [hn, show ((s.size - 4 : Nat) : Int) = (s.size : Int) - 4 by omega] at CU
  have hgI : ((s.size : Int) - 4) / 4 < (n : Int) := by omega
  go_enter Tryz.func11, Tryz.ntmps11
  go_wp2_with (first | (go_at_call 33; refine CO.out.mono ?_; rintro _ w1 ⟨rfl, b1⟩) | (go_at_call 34; refine (CU.out _).mono ?_; rintro _ w2 ⟨rfl, rfl⟩) | fail)
  go_ret2
  exact GotB.none hg b1
end Go.Proofs.YtopnbbchiglpoaaGreat
