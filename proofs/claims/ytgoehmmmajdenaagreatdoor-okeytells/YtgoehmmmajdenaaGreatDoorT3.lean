/- The statements' helpers that lend a list of ints and look whether it is as it was. -/
import Derived.Test.YtgoehmmmajdenaaGreatDoorBkInts
import Derived.Test.YtgoehmmmajdenaaGreatDoorQ9I
import Derived.Laws.AppendOwnNone
namespace Go.Proofs.YtgoehmmmajdenaaGreatDoor
open Go.RowKit

theorem infoI : (Tryz.prog.info? 3).map (fun i => (i.zero, i.size, i.bytes)) = some (some (.int .i64 0), 1, 8) := by kernel_rfl
def cellsI (zs : List Int) : List Value := zs.map fun (z : Int) => .int .i64 z
theorem cellsI_one (zs : List Int) : ∀ u ∈ cellsI zs, u.oneCell' = true := by
  intro u hu
  obtain ⟨z, _, rfl⟩ := List.mem_map.1 hu
  rfl
theorem cellsI_get (zs : List Int) (i : Nat) (h : i < zs.length) : (cellsI zs ++ [.int .i64 (-77)])[i]? = some (.int .i64 zs[i]) := by
  rw [List.getElem?_append_left (by simpa [cellsI] using h)]
  simp [cellsI, h]
theorem cellsI_mark (zs : List Int) : (cellsI zs ++ [.int .i64 (-77)])[zs.length]? = some (.int .i64 (-77)) := by
  rw [List.getElem?_append_right (by simp [cellsI])]
  simp [cellsI]

/-- A list that was lent: its elements, and behind them a mark. -/
def LentI (B : Nat) (w : World) (v : Value) (zs : List Int) : Prop := ∃ g cap, v = .slice (some ⟨g, 0, none⟩) zs.length cap ∧ w.ownsRow B 3 1 (.slice (some ⟨g, 0, none⟩) (zs.length + 1) cap) (zs.length + 1) (cellsI zs ++ [.int .i64 (-77)])

set_option maxHeartbeats 1000000 in
set_option maxRecDepth 100000 in
theorem lentI_some (ad : Addr) (cap : Nat) (zs : List Int) (w : World) (hl : zs.length ≤ 1000000) (hc : ∀ j u, (cellsI zs)[j]? = some u → w.cell? (ad.add j) = some u) :
    Calls Tryz.prog 9 #[.slice (some ad) zs.length cap] w fun e w' => (∃ v, e = .returned v ∧ LentI w.heap.size w' v zs) ∧ Below w.heap.size w w' := by
  obtain ⟨i0, hi, hz0, hz1, hz2⟩ := info_parts infoI
  have HC := Lib.hid hc
  have H1 := Lib.hid (cellsI_one zs)
  have HL : Hid ((cellsI zs).length = zs.length * 1) := by show _ = _; simp [cellsI]
  clear hc
  go_enter Tryz.func9, Tryz.ntmps9
  go_wp2_with (at_builtin; refine wpList_append_own _ rfl _ _ 23 rfl w.heap.size 3 i0 (.int .i64 0) 1 8 Tryz.underlying23 hi hz0 hz1 hz2 rfl (by decide) _ _ _ rfl (World.ownsRow_nil w w.heap.size _ _) ad zs.length cap (cellsI zs) rfl HL.out HC.out H1.out ?c3 ?c4 ?c5 ?_)
  case c3 => unfold maxLen; omega
  case c4 => omega
  case c5 => exact Nat.le_refl _
  intro v1 w1 hown1 hgrow1 _
  have hb1 : Below w.heap.size w w1 := (Below.refl _ _).grown hgrow1 (Nat.le_refl _) (fun k hk => by cases hk)
  try simp only [Nat.zero_add, List.nil_append] at hown1
  have hs1 := hb1.size
  clear hgrow1
  go_wp2_with (at_builtin; refine wpList_append_own _ rfl _ _ 23 rfl w.heap.size 3 i0 (.int .i64 0) 1 8 Tryz.underlying23 hi hz0 hz1 hz2 rfl (by decide) _ _ _ rfl (hown1.alloc _) ⟨w1.heap.size, 0, none⟩ 1 1 [.int .i64 (-77)] rfl rfl ?c1 ?c2 ?c3 ?c4 ?c5 ?_)
  case c1 =>
    intro j u hj
    match j, hj with
    | 0, hj => simp at hj; subst hj; simp [Addr.add]
  case c2 => intro u hu; simp at hu; subst hu; rfl
  case c3 => unfold maxLen; omega
  case c4 => omega
  case c5 => simp; omega
  intro v2 w2 hown2 hgrow2 _
  have hb2 : Below w.heap.size w w2 := (hb1.alloc hs1 _).grown hgrow2 (by simp; omega) (fun k hk => (hown1.lt k hk).1)
  clear hgrow2 hown1
  have HO := Lib.hid hown2
  rcases hown2.2 with ⟨-, hz⟩ | ⟨g, cap', cur, rfl, -, -, hcap, -, -, -⟩
  · omega
  · clear hown2
    go_wp2
    go_ret
    exact ⟨⟨_, rfl, g, cap', rfl, HO.out⟩, hb2⟩

set_option maxHeartbeats 1000000 in
set_option maxRecDepth 100000 in
theorem lentI_none (w : World) :
    Calls Tryz.prog 9 #[.slice none 0 0] w fun e w' => (∃ v, e = .returned v ∧ LentI w.heap.size w' v []) ∧ Below w.heap.size w w' := by
  obtain ⟨i0, hi, hz0, hz1, hz2⟩ := info_parts infoI
  go_enter Tryz.func9, Tryz.ntmps9
  go_wp2_with (at_builtin; refine wpList_append_own_none rfl (.const (.slice none 0 0)) _ 23 rfl w.heap.size 3 i0 1 Tryz.underlying23 hi _ _ _ rfl (World.ownsRow_nil w w.heap.size _ _) rfl ?_; refine Hid.out ?_)
  refine Lib.hid ?_
  go_wp2_with (at_builtin; refine wpList_append_own _ rfl _ _ 23 rfl w.heap.size 3 i0 (.int .i64 0) 1 8 Tryz.underlying23 hi hz0 hz1 hz2 rfl (by decide) _ _ _ rfl ((World.ownsRow_nil w w.heap.size _ _).alloc _) ⟨w.heap.size, 0, none⟩ 1 1 [.int .i64 (-77)] rfl rfl ?c1 ?c2 ?c3 ?c4 ?c5 ?_)
  case c1 =>
    intro j u hj
    match j, hj with
    | 0, hj => simp at hj; subst hj; simp [Addr.add]
  case c2 => intro u hu; simp at hu; subst hu; rfl
  case c3 => unfold maxLen; omega
  case c4 => omega
  case c5 => simp
  intro v2 w2 hown2 hgrow2 _
  have hb2 : Below w.heap.size w w2 := ((Below.refl _ _).alloc (Nat.le_refl _) _).grown hgrow2 (by simp) (fun k hk => by cases hk)
  have HO := Lib.hid hown2
  clear hgrow2
  rcases hown2.2 with ⟨-, hz⟩ | ⟨g, cap', cur, rfl, -, -, hcap, -, -, -⟩
  · omega
  · clear hown2
    go_wp2
    go_ret
    exact ⟨⟨_, rfl, g, cap', rfl, HO.out⟩, hb2⟩

theorem lentI_row (a : Option Addr) (len cap : Nat) (zs : List Int) (w : World) (h : IsIs w a len zs) (hn : a = none → cap = 0) (hlim : len ≤ 1000000) :
    Calls Tryz.prog 9 #[.slice a len cap] w fun e w' => (∃ v, e = .returned v ∧ LentI w.heap.size w' v zs) ∧ Below w.heap.size w w' := by
  obtain ⟨-, hl, -, hrow⟩ := h
  subst hl
  rcases hrow with he | ⟨b, off, rfl, hc⟩
  · subst he
    cases a with
    | none => obtain rfl := hn rfl; exact lentI_none w
    | some ad => exact lentI_some ad cap [] w (by simp) (fun j u hj => by simp [cellsI] at hj)
  · refine lentI_some ⟨b, off, none⟩ cap zs w hlim ?_
    intro j u hj
    rw [addr_at]
    have hj' : j < zs.length := by
      have := (List.getElem?_eq_some_iff.1 hj).1
      simpa [cellsI] using this
    rw [hc j hj']
    simp [cellsI, hj'] at hj
    rw [← hj]

set_option maxHeartbeats 1000000 in
theorem staysI_any (B : Nat) (v : Value) (a : Option Addr) (len cap : Nat) (zs : List Int) (w : World) (h : LentI B w v zs) (hr : IsIs w a len zs) (hlim : len ≤ 1000000) :
    Calls Tryz.prog 14 #[v, .slice a len cap] w fun e w' => e = .returned (.bool true) ∧ Below w.heap.size w w' := by
  obtain ⟨g, cap0, rfl, hown⟩ := h
  obtain ⟨-, hl, -, hrow⟩ := hr
  subst hl
  have hcap : zs.length + 1 ≤ cap0 := by
    rcases hown.2 with ⟨h', _⟩ | ⟨g', cap', cur, h', _, _, h2, _⟩
    · cases h'
    · cases h'; exact h2
  have HS : ∀ w', w' = w → Hid (Calls Tryz.prog 33 #[.slice (some ⟨g, 0, none⟩) zs.length cap0, .slice a zs.length cap] w' fun e w'' => e = .returned (.bool true) ∧ ∃ n, w'' = w'.drewN n) := by
    rintro _ rfl
    rcases hrow with he | ⟨b, off, rfl, hc⟩
    · subst he; exact sameInts_none _ _ _ _ _
    · exact sameInts_some g 0 cap0 b off cap zs _ hlim (fun i hi => by rw [Nat.zero_add, hown.cellAt i (by omega)]; exact cellsI_get zs i hi) hc
  have hmark : w.cell? ⟨g, zs.length, none⟩ = some (.int .i64 (-77)) := by rw [hown.cellAt zs.length (by omega)]; exact cellsI_mark zs
  have HC := HS w rfl
  clear HS hrow hown
  go_enter Tryz.func14, Tryz.ntmps14
  go_wp2_with (go_at_call 33; refine HC.out.mono ?_; rintro e w' ⟨rfl, n, rfl⟩)
  go_ret
  exact ⟨rfl, ⟨rfl, rfl, rfl, Nat.le_refl _, fun _ _ => rfl⟩⟩
open Go.ChangeShapes Go.WideShapes Go.ChangeAt in
theorem rowI_nil {H : Type} {enc : TypeId × Value → H} {w : World} {base fuel : Nat} {held : Bool} {a : Option Addr} {len cap : Nat} {x : DataW H × List MemPlace}
    (h : DataW.trod enc Tryz.prog w base (fun _ => true) held fuel 23 (Value.slice a len cap).cells.toList = some x) : a = none → cap = 0 := by
  rcases open_ints Tryz.underlying23 Tryz.underlying3 cellsInt h with ⟨hcs, _⟩ | ⟨y, l, c, zs, hcs, _, hl, hm, hz, _, hcell, hwz⟩
  · simp [Value.cells] at hcs
    exact fun _ => hcs.2.2
  · simp [Value.cells] at hcs
    intro e
    rw [hcs.1] at e
    cases e
end Go.Proofs.YtgoehmmmajdenaaGreatDoor
