/- Lists of texts that were lent, and whether they are as they were. -/
import Derived.Test.YtdbdifbcfplegaaGT
import Derived.Laws.AppendOwnNone
import Derived.Deep.QuietTactic
namespace Go.Proofs.Ytdbdifbcfplegaa
open Go.RowKit

theorem drewN_add (w : World) (a b : Nat) : (w.drewN a).drewN b = w.drewN (a + b) := by
  show World.mk _ _ _ _ _ = _
  first | rfl | (simp [World.drewN, Nat.add_assoc])
set_option maxHeartbeats 1000000 in
set_option maxRecDepth 100000 in
theorem sameS_some (g off0 cap0 b off cap : Nat) (zs : List ByteArray) (w : World) (hl : zs.length ≤ 1000000) (h0 : ∀ i (h : i < zs.length), w.cell? ⟨g, off0 + i, none⟩ = some (.string zs[i])) (h1 : ∀ i (h : i < zs.length), w.cell? ⟨b, off + i, none⟩ = some (.string zs[i])) :
    Calls Try.prog 21 #[.slice (some ⟨g, off0, none⟩) zs.length cap0, .slice (some ⟨b, off, none⟩) zs.length cap] w fun e w' => e = .returned (.bool true) ∧ ∃ n, w' = w.drewN n := by
  have H0 := Lib.hid h0
  have H1 := Lib.hid h1
  clear h0 h1
  go_enter Try.func21, Try.ntmps21
  go_wp2
  go_loopw [5] (fun i wr => ∃ k n : Nat, k ≤ zs.length ∧ i = .int .i64 k ∧ wr = w.drewN n) (fun i _ => zs.length - (intOf i).toNat)
  case atStart => exact ⟨0, 0, Nat.zero_le _, rfl, rfl⟩
  case round =>
    obtain ⟨k, n, hk, rfl, rfl⟩ := hrel
    by_cases hlt : k < zs.length
    · have hc0 := H0.out k hlt
      have hc1 := H1.out k hlt
      have hk0 : (k : Int) < (zs.length : Int) := by omega
      go_wp2
      go_quiet (fail)
      go_wp2
      go_roundw
      case rel => exact ⟨k + 1, n + nq, by omega, by go_num, by first | rfl | (rw [drewN_add])⟩
      case measure => simp [intOf]; omega
    · go_wp2
      go_ret
      exact ⟨rfl, n, rfl⟩
set_option maxHeartbeats 1000000 in
theorem sameS_none (a0 a1 : Option Addr) (cap0 cap : Nat) (w : World) :
    Calls Try.prog 21 #[.slice a0 0 cap0, .slice a1 0 cap] w fun e w' => e = .returned (.bool true) ∧ ∃ n, w' = w.drewN n := by
  go_enter Try.func21, Try.ntmps21
  go_wp2
  refine wp_loop_rounds 1 ?_
  rw [rounds_succ]
  go_wp2
  go_ret
  exact ⟨rfl, 0, rfl⟩
theorem infoS : (Try.prog.info? 9).map (fun i => (i.zero, i.size, i.bytes)) = some (some (.string ⟨#[]⟩), 1, 16) := by kernel_rfl
def cellsS (zs : List ByteArray) : List Value := zs.map fun (z : ByteArray) => .string z
theorem cellsS_one (zs : List ByteArray) : ∀ u ∈ cellsS zs, u.oneCell' = true := by
  intro u hu
  obtain ⟨z, _, rfl⟩ := List.mem_map.1 hu
  rfl
theorem cellsS_get (zs : List ByteArray) (i : Nat) (h : i < zs.length) : (cellsS zs ++ [.string ⟨#[109, 97, 114, 107]⟩])[i]? = some (.string zs[i]) := by
  rw [List.getElem?_append_left (by simpa [cellsS] using h)]
  simp [cellsS, h]
theorem cellsS_mark (zs : List ByteArray) : (cellsS zs ++ [.string ⟨#[109, 97, 114, 107]⟩])[zs.length]? = some (.string ⟨#[109, 97, 114, 107]⟩) := by
  rw [List.getElem?_append_right (by simp [cellsS])]
  simp [cellsS]
/-- A list that was lent: its elements, and behind them a mark. -/
def LentS (B : Nat) (w : World) (v : Value) (zs : List ByteArray) : Prop := ∃ g cap, v = .slice (some ⟨g, 0, none⟩) zs.length cap ∧ w.ownsRow B 9 1 (.slice (some ⟨g, 0, none⟩) (zs.length + 1) cap) (zs.length + 1) (cellsS zs ++ [.string ⟨#[109, 97, 114, 107]⟩])
set_option maxHeartbeats 1000000 in
set_option maxRecDepth 100000 in
theorem lentS_some (ad : Addr) (cap : Nat) (zs : List ByteArray) (w : World) (hl : zs.length ≤ 1000000) (hc : ∀ j u, (cellsS zs)[j]? = some u → w.cell? (ad.add j) = some u) :
    Calls Try.prog 8 #[.slice (some ad) zs.length cap] w fun e w' => (∃ v, e = .returned v ∧ LentS w.heap.size w' v zs) ∧ Below w.heap.size w w' := by
  obtain ⟨i0, hi, hz0, hz1, hz2⟩ := info_parts infoS
  have HC := Lib.hid hc
  have H1 := Lib.hid (cellsS_one zs)
  have HL : Hid ((cellsS zs).length = zs.length * 1) := by show _ = _; simp [cellsS]
  clear hc
  go_enter Try.func8, Try.ntmps8
  go_wp2_with (at_builtin; refine wpList_append_own _ rfl _ _ 22 rfl w.heap.size 9 i0 (.string ⟨#[]⟩) 1 16 Try.underlying22 hi hz0 hz1 hz2 rfl (by decide) _ _ _ rfl (World.ownsRow_nil w w.heap.size _ _) ad zs.length cap (cellsS zs) rfl HL.out HC.out H1.out ?c3 ?c4 ?c5 ?_)
  case c3 => unfold maxLen; omega
  case c4 => omega
  case c5 => exact Nat.le_refl _
  intro v1 w1 hown1 hgrow1 _
  have hb1 : Below w.heap.size w w1 := (Below.refl _ _).grown hgrow1 (Nat.le_refl _) (fun k hk => by cases hk)
  try simp only [Nat.zero_add, List.nil_append] at hown1
  have hs1 := hb1.size
  clear hgrow1
  go_wp2_with (at_builtin; refine wpList_append_own _ rfl _ _ 22 rfl w.heap.size 9 i0 (.string ⟨#[]⟩) 1 16 Try.underlying22 hi hz0 hz1 hz2 rfl (by decide) _ _ _ rfl (hown1.alloc _) ⟨w1.heap.size, 0, none⟩ 1 1 [.string ⟨#[109, 97, 114, 107]⟩] rfl rfl ?c1 ?c2 ?c3 ?c4 ?c5 ?_)
  case c1 =>
    intro j u hj
    match j, hj with
    | 0, hj => simp at hj; subst hj; simp [Addr.add]
  case c2 => intro u hu; simp at hu; subst hu; rfl
  case c3 => unfold maxLen; omega
  case c4 => omega
  case c5 => simp; omega
  intro v2 w2 hown2 hgrow2 _
  have hb2 : Below w.heap.size w w2 := (hb1.alloc hs1 _).grown hgrow2 (by simp; omega) (fun k hk => (hown1.lt k hk).1)
  clear hgrow2 hown1
  have HO := Lib.hid hown2
  rcases hown2.2 with ⟨-, hz⟩ | ⟨g, cap', cur, rfl, -, -, hcap, -, -, -⟩
  · omega
  · clear hown2
    go_wp2
    go_ret
    exact ⟨⟨_, rfl, g, cap', rfl, HO.out⟩, hb2⟩
set_option maxHeartbeats 1000000 in
set_option maxRecDepth 100000 in
theorem lentS_none (w : World) :
    Calls Try.prog 8 #[.slice none 0 0] w fun e w' => (∃ v, e = .returned v ∧ LentS w.heap.size w' v []) ∧ Below w.heap.size w w' := by
  obtain ⟨i0, hi, hz0, hz1, hz2⟩ := info_parts infoS
  go_enter Try.func8, Try.ntmps8
  go_wp2_with (at_builtin; refine wpList_append_own_none rfl (.const (.slice none 0 0)) _ 22 rfl w.heap.size 9 i0 1 Try.underlying22 hi _ _ _ rfl (World.ownsRow_nil w w.heap.size _ _) rfl ?_; refine Hid.out ?_)
  refine Lib.hid ?_
  go_wp2_with (at_builtin; refine wpList_append_own _ rfl _ _ 22 rfl w.heap.size 9 i0 (.string ⟨#[]⟩) 1 16 Try.underlying22 hi hz0 hz1 hz2 rfl (by decide) _ _ _ rfl ((World.ownsRow_nil w w.heap.size _ _).alloc _) ⟨w.heap.size, 0, none⟩ 1 1 [.string ⟨#[109, 97, 114, 107]⟩] rfl rfl ?c1 ?c2 ?c3 ?c4 ?c5 ?_)
  case c1 =>
    intro j u hj
    match j, hj with
    | 0, hj => simp at hj; subst hj; simp [Addr.add]
  case c2 => intro u hu; simp at hu; subst hu; rfl
  case c3 => unfold maxLen; omega
  case c4 => omega
  case c5 => simp
  intro v2 w2 hown2 hgrow2 _
  have hb2 : Below w.heap.size w w2 := ((Below.refl _ _).alloc (Nat.le_refl _) _).grown hgrow2 (by simp) (fun k hk => by cases hk)
  have HO := Lib.hid hown2
  clear hgrow2
  rcases hown2.2 with ⟨-, hz⟩ | ⟨g, cap', cur, rfl, -, -, hcap, -, -, -⟩
  · omega
  · clear hown2
    go_wp2
    go_ret
    exact ⟨⟨_, rfl, g, cap', rfl, HO.out⟩, hb2⟩
theorem lentS_row (a : Option Addr) (len cap : Nat) (zs : List ByteArray) (w : World) (h : IsRowS w a len zs) (hn : a = none → cap = 0) (hlim : len ≤ 1000000) :
    Calls Try.prog 8 #[.slice a len cap] w fun e w' => (∃ v, e = .returned v ∧ LentS w.heap.size w' v zs) ∧ Below w.heap.size w w' := by
  obtain ⟨hl, hr, hrow⟩ := h
  subst hl
  rcases hrow with h0 | ⟨b, off, rfl, hb, hc⟩
  · have he : zs = [] := List.eq_nil_of_length_eq_zero h0
    subst he
    cases a with
    | none => obtain rfl := hn rfl; exact lentS_none w
    | some ad => exact lentS_some ad cap [] w (by simp) (fun j u hj => by simp [cellsS] at hj)
  · refine lentS_some ⟨b, off, none⟩ cap zs w hlim ?_
    intro j u hj
    rw [addr_plain]
    have hj' : j < zs.length := by
      have := (List.getElem?_eq_some_iff.1 hj).1
      simpa [cellsS] using this
    rw [hc j hj']
    simp [cellsS, hj'] at hj
    rw [← hj]
set_option maxHeartbeats 1000000 in
theorem staysS_any (B : Nat) (v : Value) (a : Option Addr) (len cap : Nat) (zs : List ByteArray) (w : World) (h : LentS B w v zs) (hr : IsRowS w a len zs) (hlim : len ≤ 1000000) :
    Calls Try.prog 17 #[v, .slice a len cap] w fun e w' => e = .returned (.bool true) ∧ Below w.heap.size w w' := by
  obtain ⟨g, cap0, rfl, hown⟩ := h
  obtain ⟨hl, -, hrow⟩ := hr
  subst hl
  have hcap : zs.length + 1 ≤ cap0 := by
    rcases hown.2 with ⟨h', _⟩ | ⟨g', cap', cur, h', _, _, h2, _⟩
    · cases h'
    · cases h'; exact h2
  have HS : ∀ w', w' = w → Hid (Calls Try.prog 21 #[.slice (some ⟨g, 0, none⟩) zs.length cap0, .slice a zs.length cap] w' fun e w'' => e = .returned (.bool true) ∧ ∃ n, w'' = w'.drewN n) := by
    rintro _ rfl
    rcases hrow with h0 | ⟨b, off, rfl, hb, hc⟩
    · rw [h0]; exact sameS_none _ _ _ _ _
    · exact sameS_some g 0 cap0 b off cap zs _ hlim (fun i hi => by rw [Nat.zero_add, hown.cellAt i (by omega)]; exact cellsS_get zs i hi) hc
  have hmark : w.cell? ⟨g, zs.length, none⟩ = some (.string ⟨#[109, 97, 114, 107]⟩) := by rw [hown.cellAt zs.length (by omega)]; exact cellsS_mark zs
  have HC := HS w rfl
  clear HS hrow hown
  go_enter Try.func17, Try.ntmps17
  go_wp2_with (go_at_call 21; refine HC.out.mono ?_; rintro e w' ⟨rfl, n, rfl⟩)
  go_ret
  exact ⟨rfl, ⟨rfl, rfl, rfl, Nat.le_refl _, fun _ _ => rfl⟩⟩
end Go.Proofs.Ytdbdifbcfplegaa
