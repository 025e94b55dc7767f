/- Joined: DF4 DF5. -/
import Derived.Test.YtfndlfnlepndmaaGreatDF23
import Derived.Test.YtfndlfnlepndmaaGreatSI
namespace Go.Proofs.YtfndlfnlepndmaaGreat
open Go.RowKit

theorem flat_len {α : Type} {c : α → List Value} {m : Nat} (hc : ∀ x, (c x).length = m) : ∀ l : List α, (l.flatMap c).length = l.length * m
  | [] => by simp
  | x :: l => by rw [List.flatMap_cons, List.length_append, hc, flat_len hc l, List.length_cons, Nat.add_mul]; omega
theorem flat_get {α : Type} {c : α → List Value} {m : Nat} (hc : ∀ x, (c x).length = m) : ∀ (l : List α) (i : Nat) (h : i < l.length) (j : Nat) (u : Value), (c l[i])[j]? = some u → (l.flatMap c)[i * m + j]? = some u
  | [], _, h, _, _, _ => by cases h
  | x :: l, 0, _, j, u, hu => by
    have hu' : (c x)[j]? = some u := hu
    rw [List.flatMap_cons, Nat.zero_mul, Nat.zero_add, List.getElem?_append_left (List.getElem?_eq_some_iff.1 hu').1]
    exact hu'
  | x :: l, i + 1, h, j, u, hu => by
    have ih := flat_get hc l i (by simpa using h) j u hu
    rw [List.flatMap_cons, List.getElem?_append_right (by rw [hc, Nat.add_mul]; omega), hc, show (i + 1) * m + j - m = i * m + j by rw [Nat.add_mul]; omega]
    exact ih
theorem flat_set {α : Type} {c : α → List Value} {m : Nat} (hc : ∀ x, (c x).length = m) : ∀ (l : List α) (i : Nat) (h : i < l.length) (j : Nat) (_ : j < m) (u : Value) (y : α), c y = (c l[i]).set j u → (l.set i y).flatMap c = (l.flatMap c).set (i * m + j) u
  | [], _, h, _, _, _, _, _ => by cases h
  | x :: l, 0, _, j, hj, u, y, hy => by
    rw [List.set_cons_zero, List.flatMap_cons, List.flatMap_cons, Nat.zero_mul, Nat.zero_add, List.set_append_left _ _ (by rw [hc]; exact hj), hy]
    rfl
  | x :: l, i + 1, h, j, hj, u, y, hy => by
    have ih := flat_set hc l i (by simpa using h) j hj u y hy
    rw [List.set_cons_succ, List.flatMap_cons, List.flatMap_cons, List.set_append_right _ _ (by rw [hc, Nat.add_mul]; omega), hc, show (i + 1) * m + j - m = i * m + j by rw [Nat.add_mul]; omega, ih]

/-- A change, as the document has it. -/
structure Cz where
  kind : Int
  name : Nm
  dst : Nm
  file : Nat
def Cz.cells (x : Cz) : List Value := [.int .i64 x.kind, .string ⟨x.name.toArray⟩, .string ⟨x.dst.toArray⟩, .int .i64 (x.file : Int)]
def cellsC (l : List Cz) : List Value := l.flatMap Cz.cells
def Cz.run (x : Cz) (d : Dir) : Dir := if x.kind = 1 then dput d x.name x.file else if x.kind = 2 then dput (ddel d x.name) x.dst x.file else ddel d x.name
def cellF (f : Fil) : List Value := [.string ⟨f.b.toArray⟩, .int .i64 (f.syn : Int)]
def cellsF (l : List Fil) : List Value := l.flatMap cellF
theorem cellsC_one (l : List Cz) : ∀ u ∈ cellsC l, u.oneCell' = true := by
  intro u hu
  obtain ⟨x, -, hx⟩ := List.mem_flatMap.1 hu
  simp only [Cz.cells, List.mem_cons, List.not_mem_nil, or_false] at hx
  rcases hx with rfl | rfl | rfl | rfl <;> rfl
theorem cellsF_one (l : List Fil) : ∀ u ∈ cellsF l, u.oneCell' = true := by
  intro u hu
  obtain ⟨x, -, hx⟩ := List.mem_flatMap.1 hu
  simp only [cellF, List.mem_cons, List.not_mem_nil, or_false] at hx
  rcases hx with rfl | rfl <;> rfl

set_option maxHeartbeats 4000000 in
set_option maxRecDepth 100000 in
theorem change_any {w : World} {v : Value} {d : Dir} (h : DirZ w v d) (x : Cz) (hl : d.length ≤ 1000000) (hn : x.name.length ≤ 9223372036854775807) (ht : x.dst.length ≤ 9223372036854775807) (hk : ∀ p ∈ d, p.1.length ≤ 9223372036854775807) :
    Calls Tryz.prog 129 #[v, .agg #[.int .i64 x.kind, .string ⟨x.name.toArray⟩, .string ⟨x.dst.toArray⟩, .int .i64 (x.file : Int)]] w fun e w' => ∃ v', e = .returned v' ∧ DirZ w' v' (x.run d) ∧ (∀ b, ob v' = some b → w.heap.size ≤ b) ∧ Below w.heap.size w w' := by
  obtain ⟨kind, name, dst, file⟩ := x
  obtain ⟨W, hW⟩ : ∃ W, w.alloc (.cells #[.int .i64 kind, .string ⟨name.toArray⟩, .string ⟨dst.toArray⟩, .int .i64 (file : Int)] 141) = W := ⟨_, rfl⟩
  have hbW : Below w.heap.size w W := by rw [← hW]; exact (Below.refl _ _).alloc (Nat.le_refl _) _
  have hsz : w.heap.size < W.heap.size := by rw [← hW]; simp
  have hblk : W.heap[w.heap.size]? = some (.cells #[.int .i64 kind, .string ⟨name.toArray⟩, .string ⟨dst.toArray⟩, .int .i64 (file : Int)] 141) := by rw [← hW]; exact blockZ _ _ rfl
  have c0 : W.cell? ⟨w.heap.size, 0, none⟩ = some (.int .i64 kind) := by simp [World.cell?, hblk]
  have c1 : W.cell? ⟨w.heap.size, 1, none⟩ = some (.string ⟨name.toArray⟩) := by simp [World.cell?, hblk]
  have c2 : W.cell? ⟨w.heap.size, 2, none⟩ = some (.string ⟨dst.toArray⟩) := by simp [World.cell?, hblk]
  have c3 : W.cell? ⟨w.heap.size, 3, none⟩ = some (.int .i64 (file : Int)) := by simp [World.cell?, hblk]
  have HBW := Lib.hid hbW
  have HD := Lib.hid (show ∀ W', Below w.heap.size w W' → DirZ W' v d from fun W' hb => h.below hb)
  have CD := Lib.hid (show ∀ W', Below w.heap.size w W' → _ from fun W' hb => del_any (HD.out W' hb) ⟨name.toArray⟩ hl)
  have CS := Lib.hid (show ∀ W', Below w.heap.size w W' → _ from fun W' hb => set_any (HD.out W' hb) ⟨name.toArray⟩ file hl hn hk)
  have CS2 := Lib.hid (fun W' v' (hr : DirZ W' v' (ddel d name)) => set_any hr ⟨dst.toArray⟩ file (Nat.le_trans (length_ddel _ _) hl) ht (fun p hp => hk p (mem_ddel.1 hp).1))
  clear hbW hblk h hk
  by_cases h1 : kind = 1
  · subst h1
    go_enter Tryz.func129, Tryz.ntmps129
    go_wp2_with (first | (go_at_call 163; (with_reducible refine (CS.out _ HBW.out).mono ?_); rintro e w3 ⟨v3, rfl, hrow3, hfr3, hb3⟩) | fail)
    go_ret
    exact ⟨v3, rfl, by simpa [Cz.run] using hrow3, fun b hb => Nat.le_trans HBW.out.size (hfr3 b hb), HBW.out.trans (hb3.mono HBW.out.size)⟩
  · by_cases h2 : kind = 2
    · subst h2
      go_enter Tryz.func129, Tryz.ntmps129
      go_wp2_with fail
      go_region_law (first | (go_simp; go_at_call 164; (with_reducible refine (CD.out _ HBW.out.drew).mono ?_); rintro e w3 ⟨v3, rfl, hrow3, hfr3, hb3⟩; have g2 := (hb3.cell (p := ⟨w.heap.size, 2, none⟩) hsz).trans c2; have g3 := (hb3.cell (p := ⟨w.heap.size, 3, none⟩) hsz).trans c3; go_wp2_with fail) | (go_simp; go_at_call 163; (with_reducible refine (CS2.out _ _ hrow3).mono ?_); rintro e w4 ⟨v4, rfl, hrow4, hfr4, hb4⟩; go_wp2_with fail) | fail)
      all_goals go_wp2
      all_goals go_ret
      all_goals
        have hb3' := HBW.out.drew.trans (hb3.mono HBW.out.size)
        exact ⟨v4, rfl, by simpa [Cz.run] using hrow4, fun b hb => Nat.le_trans hb3'.size (hfr4 b hb), hb3'.trans (hb4.mono hb3'.size)⟩
    · have e1 : (kind == 1) = false := by simpa using h1
      have e2 : (kind == 2) = false := by simpa using h2
      have HR := Lib.hid (show (Cz.mk kind name dst file).run d = ddel d name by simp [Cz.run, h1, h2])
      clear h1 h2
      go_enter Tryz.func129, Tryz.ntmps129
      go_wp2_with (first | (go_at_call 164; (with_reducible refine (CD.out _ HBW.out).mono ?_); rintro e w3 ⟨v3, rfl, hrow3, hfr3, hb3⟩) | fail)
      go_ret
      rw [HR.out]
      exact ⟨v3, rfl, hrow3, fun b hb => Nat.le_trans HBW.out.size (hfr3 b hb), HBW.out.trans (hb3.mono HBW.out.size)⟩

/-- Where the document's System has its rows; what is pending, as it has it. -/
structure RefV where
  s : Value
  d : Value
  p : Value
  f : Value
  cs : List Cz
def RefV.foot (x : RefV) : List Nat := (ob x.s).toList ++ (ob x.d).toList ++ (ob x.p).toList ++ (ob x.f).toList
def refCells (s : St) (x : RefV) : Array Value := #[.int .i64 s.room, .bool s.on, .int .i64 s.fuse, .int .i64 s.bad, .int .i64 s.steps, x.s, x.d, x.p, x.f]
/-- The document's System at q, in state s. -/
structure RefAt (w : World) (q : Nat) (s : St) (x : RefV) : Prop where
  box : w.heap[q]? = some (.cells (refCells s x) 75)
  safe : DirZ w x.s s.last
  dir : DirZ w x.d s.now
  pend : RowZ w 141 4 x.p x.cs.length (cellsC x.cs)
  files : Row w 96 2 x.f s.files.length (cellsF s.files)
  len : x.cs.length = s.pend.length
  again : ∀ k, k ≤ s.pend.length → (x.cs.take k).foldl (fun d c => c.run d) s.last = redo s.last (s.pend.take k)
  small : ∀ c ∈ x.cs, c.name.length ≤ 9223372036854775807 ∧ c.dst.length ≤ 9223372036854775807
section
variable {w w' : World} {q : Nat} {s s' : St} {x : RefV}
theorem RefAt.cell (h : RefAt w q s x) (j : Nat) (v : Value) (hj : (refCells s x)[j]? = some v) : w.cell? ⟨q, j, none⟩ = some v := by
  simp only [World.cell?, h.box]
  exact hj
theorem RefAt.warm (h : RefAt w q s x) (j : Nat) : w.frozen? ⟨q, j, none⟩ = false := by simp [World.frozen?, h.box]
theorem RefAt.lt (h : RefAt w q s x) : q < w.heap.size := (Array.getElem?_eq_some_iff.1 h.box).1
theorem row_neZ {v : Value} {e t : TypeId} {size n : Nat} {xs : List Value} {c : Array Value} (h : Row w e size v n xs) (hq : w.heap[q]? = some (.cells c t)) (hne : e ≠ t) : ∀ k, ob v = some k → k ≠ q := by
  intro k hk e2
  subst e2
  rcases h.2 with ⟨-, rfl | ⟨b, o, rfl⟩⟩ | ⟨g, cap, cur, rfl, hg, -⟩
  · cases hk
  · cases hk
  · have : g = k := Option.some.inj hk
    subst this
    rw [hg] at hq
    cases hq
    exact hne rfl
theorem rowZ_ne {v : Value} {e t : TypeId} {size n : Nat} {xs : List Value} {c : Array Value} (h : RowZ w e size v n xs) (hq : w.heap[q]? = some (.cells c t)) (hne : e ≠ t) : ∀ k, ob v = some k → k ≠ q := row_neZ h.1 hq hne
theorem RefAt.ne (h : RefAt w q s x) : ∀ k ∈ x.foot, k ≠ q := by
  intro k hk
  simp only [RefV.foot, List.mem_append, Option.mem_toList] at hk
  rcases hk with ((hk | hk) | hk) | hk
  · exact rowZ_ne h.safe h.box (by decide) k hk
  · exact rowZ_ne h.dir h.box (by decide) k hk
  · exact rowZ_ne h.pend h.box (by decide) k hk
  · exact row_neZ h.files h.box (by decide) k hk
theorem RefAt.foot_lt (h : RefAt w q s x) : ∀ k ∈ x.foot, k < w.heap.size := by
  intro k hk
  simp only [RefV.foot, List.mem_append, Option.mem_toList] at hk
  rcases hk with ((hk | hk) | hk) | hk
  · exact h.safe.1.lt k hk
  · exact h.dir.1.lt k hk
  · exact h.pend.1.lt k hk
  · exact h.files.lt k hk
theorem RefAt.kept (h : RefAt w q s x) (hq : w'.heap[q]? = w.heap[q]?) (hk : ∀ k ∈ x.foot, w'.heap[k]? = w.heap[k]?) : RefAt w' q s x :=
  ⟨hq.trans h.box, h.safe.kept fun k e => hk k (by simp [RefV.foot, e]), h.dir.kept fun k e => hk k (by simp [RefV.foot, e]), h.pend.kept fun k e => hk k (by simp [RefV.foot, e]), h.files.kept fun k e => hk k (by simp [RefV.foot, e]), h.len, h.again, h.small⟩
theorem RefAt.below (h : RefAt w q s x) (hb : Below w.heap.size w w') : RefAt w' q s x := h.kept (hb.block q h.lt) fun k hk => hb.block k (h.foot_lt k hk)
theorem RefAt.turned (h : RefAt w q s x) (ht : Turn [q] w w') (hq : w'.heap[q]? = some (.cells (refCells s' x) 75)) (e1 : s'.now = s.now) (e2 : s'.last = s.last) (e3 : s'.pend = s.pend) (e4 : s'.files = s.files) : RefAt w' q s' x := by
  have hk : ∀ k ∈ x.foot, w'.heap[k]? = w.heap[k]? := fun k hk => ht.block k (h.foot_lt k hk) (by simpa using h.ne k hk)
  refine ⟨hq, ?_, ?_, ?_, ?_, ?_, ?_, h.small⟩
  · rw [e2]; exact h.safe.kept fun k e => hk k (by simp [RefV.foot, e])
  · rw [e1]; exact h.dir.kept fun k e => hk k (by simp [RefV.foot, e])
  · exact h.pend.kept fun k e => hk k (by simp [RefV.foot, e])
  · rw [e4]; exact h.files.kept fun k e => hk k (by simp [RefV.foot, e])
  · rw [e3]; exact h.len
  · rw [e2, e3]; exact h.again
/-- A number or a truth of it is stored. -/
theorem RefAt.set (h : RefAt w q s x) (j : Nat) (v : Value) (hs : (refCells s x).setIfInBounds j v = refCells s' x)
    (e1 : s'.now = s.now) (e2 : s'.last = s.last) (e3 : s'.pend = s.pend) (e4 : s'.files = s.files) : RefAt (w.setCell ⟨q, j, none⟩ v) q s' x := by
  refine h.turned ((Turn.refl [q] w).setCell (p := ⟨q, j, none⟩) (.inl (by simp)) v) ?_ e1 e2 e3 e4
  rw [← hs]
  exact heap_setCell_same w q j _ _ v h.box
theorem told_any (b : Bool) (e : Int) (w : World) : Calls Tryz.prog 124 #[.bool b, .int .i64 e] w fun r w' => r = .returned (.int .i64 (if b then e else 14)) ∧ w = w' := by
  cases b <;> go_enter Tryz.func124, Tryz.ntmps124 <;> go_wp2 <;> go_ret <;> exact ⟨rfl, rfl⟩
theorem op_off (h : RefAt w q s x) (hon : s.on = false) : Calls Tryz.prog 123 #[.pointer (some ⟨q, 0, none⟩)] w fun e w' => e = .returned (.tuple #[.bool false, .bool false]) ∧ w = w' := by
  have c1 := h.cell 1 (.bool false) (by rw [← hon]; rfl)
  go_enter Tryz.func123, Tryz.ntmps123
  go_wp2
  go_ret2
  exact ⟨rfl, rfl⟩
set_option maxHeartbeats 2000000 in
theorem op_on (h : RefAt w q s x) (hon : s.on = true) (h1 : 0 ≤ s.steps) (h2 : s.steps ≤ 1000000) (hf : s.fuse ≤ 9223372036854775807) :
    Calls Tryz.prog 123 #[.pointer (some ⟨q, 0, none⟩)] w fun e w' => e = .returned (.tuple #[.bool true, .bool s.begun.on]) ∧ RefAt w' q s.begun x ∧ Turn [q] w w' ∧ w'.heap.size = w.heap.size := by
  have c1 := h.cell 1 (.bool true) (by rw [← hon]; rfl)
  have c4 := h.cell 4 (.int .i64 s.steps) rfl
  have c2 := h.cell 2 (.int .i64 s.fuse) rfl
  have f1 := h.warm 1
  have f2 := h.warm 2
  have f4 := h.warm 4
  have i1 : s.steps < 4611686018427387904 := by omega
  have hs1 := Lib.hid (h.set (s' := { s with steps := s.steps + 1 }) 4 (.int .i64 (s.steps + 1)) rfl rfl rfl rfl rfl)
  have ht1 := Lib.hid ((Turn.refl [q] w).setCell (p := ⟨q, 4, none⟩) (.inl (by simp)) (.int .i64 (s.steps + 1)))
  have d2 := cell_set (i := 4) (u := .int .i64 (s.steps + 1)) c2 (by decide)
  have d1 := cell_set (i := 4) (u := .int .i64 (s.steps + 1)) c1 (by decide)
  have g2 := warm_set (b := q) (i := 4) (u := .int .i64 (s.steps + 1)) f2
  have g1 := warm_set (b := q) (i := 4) (u := .int .i64 (s.steps + 1)) f1
  go_enter Tryz.func123, Tryz.ntmps123
  rcases Int.lt_trichotomy s.fuse 0 with hlt | heq | hgt
  · have e0 : (s.fuse == 0) = false := by simp; omega
    have e1 : decide (0 < s.fuse) = false := by simp; omega
    have ho : s.begun.on = true := by simp [St.begun, over, hlt]
    go_wp2
    go_ret2
    rw [ho]
    refine ⟨rfl, ?_, ht1.out, by simp⟩
    have e2 : tick s.fuse = s.fuse := by simp [tick, hlt]
    refine hs1.out.turned (Turn.refl _ _) ?_ rfl rfl rfl rfl
    rw [hs1.out.box]
    simp only [refCells, St.begun, e2]
    rw [hon, show (!over s.fuse) = true from ho]
  · have ho : s.begun.on = false := by simp [St.begun, over, heq]
    rw [heq] at c2 d2
    go_wp2
    go_ret2
    rw [ho]
    refine ⟨rfl, ?_, ?_, by simp⟩
    · have h3 := hs1.out.set (s' := { s with steps := s.steps + 1, fuse := -1 }) 2 (.int .i64 (-1)) rfl rfl rfl rfl rfl
      exact h3.set (s' := s.begun) 1 (.bool false) (by simp [refCells, St.begun, tick, over, heq]) rfl rfl rfl rfl
    · exact (ht1.out.setCell (.inl (by simp)) _).setCell (.inl (by simp)) _
  · have e0 : (s.fuse == 0) = false := by simp; omega
    have e1 : decide (0 < s.fuse) = true := by simp; omega
    have ho : s.begun.on = true := by simp [St.begun, over]; omega
    go_wp2
    go_ret2
    rw [ho]
    refine ⟨rfl, ?_, ?_, by simp⟩
    · have e2 : tick s.fuse = s.fuse - 1 := by simp [tick]; omega
      have h3 := hs1.out.set (s' := { s with steps := s.steps + 1, fuse := s.fuse - 1 }) 2 (.int .i64 (s.fuse - 1)) rfl rfl rfl rfl rfl
      refine h3.turned (Turn.refl _ _) ?_ rfl rfl rfl rfl
      rw [h3.box]
      simp only [refCells, St.begun, e2]
      rw [hon, show (!over s.fuse) = true from ho]
    · exact ht1.out.setCell (.inl (by simp)) _
set_option maxHeartbeats 2000000 in
theorem rbad_any (h : RefAt w q s x) (hf : s.bad ≤ 9223372036854775807) :
    Calls Tryz.prog 127 #[.pointer (some ⟨q, 0, none⟩)] w fun e w' => e = .returned (.bool (over s.bad)) ∧ RefAt w' q s.bads x ∧ Turn [q] w w' ∧ w'.heap.size = w.heap.size := by
  have c3 := h.cell 3 (.int .i64 s.bad) rfl
  have f3 := h.warm 3
  have HH := Lib.hid h
  go_enter Tryz.func127, Tryz.ntmps127
  rcases Int.lt_trichotomy s.bad 0 with hlt | heq | hgt
  · have e0 : (s.bad == 0) = false := by simp; omega
    have e1 : decide (0 < s.bad) = false := by simp; omega
    have ho : over s.bad = false := by simp [over, hlt]
    go_wp2
    go_ret
    rw [ho]
    have e2 : s.bads = s := by simp [St.bads, tick, hlt]
    rw [e2]
    exact ⟨rfl, HH.out, Turn.refl _ _, rfl⟩
  · have ho : over s.bad = true := by simp [over, heq]
    rw [heq] at c3
    go_wp2
    go_ret
    rw [ho]
    exact ⟨rfl, HH.out.set (s' := s.bads) 3 (.int .i64 (-1)) (by simp [refCells, St.bads, tick, heq]) rfl rfl rfl rfl, (Turn.refl _ _).setCell (.inl (by simp)) _, by simp⟩
  · have e0 : (s.bad == 0) = false := by simp; omega
    have e1 : decide (0 < s.bad) = true := by simp; omega
    have ho : over s.bad = false := by simp [over]; omega
    go_wp2
    go_ret
    rw [ho]
    have e2 : tick s.bad = s.bad - 1 := by simp [tick]; omega
    exact ⟨rfl, HH.out.set (s' := s.bads) 3 (.int .i64 (s.bad - 1)) (by simp [refCells, St.bads, e2]) rfl rfl rfl rfl, (Turn.refl _ _).setCell (.inl (by simp)) _, by simp⟩
end
end Go.Proofs.YtfndlfnlepndmaaGreat

namespace Go.Proofs.YtfndlfnlepndmaaGreat
open Go.RowKit

theorem infoCZ : (Tryz.prog.info? 141).map (fun i => (i.zero, i.size, i.bytes)) = some (some (.agg #[.int .i64 0, .string ⟨#[]⟩, .string ⟨#[]⟩, .int .i64 0]), 4, 48) := by kernel_rfl
theorem infoFZ : (Tryz.prog.info? 96).map (fun i => (i.zero, i.size, i.bytes)) = some (some (.agg #[.string ⟨#[]⟩, .int .i64 0]), 2, 24) := by kernel_rfl
theorem srcC_new (c : Cz) (w : World) : Src Tryz.prog 4 72 (.slice (some ⟨w.heap.size, 0, none⟩) 1 1) 1 [.int .i64 c.kind, .string ⟨c.name.toArray⟩, .string ⟨c.dst.toArray⟩, .int .i64 (c.file : Int)] (w.alloc (.cells #[.int .i64 c.kind, .string ⟨c.name.toArray⟩, .string ⟨c.dst.toArray⟩, .int .i64 (c.file : Int)] 141)) :=
  Src.ofSlice (P := Tryz.prog) _ (size := 4) Tryz.underlying72 ⟨w.heap.size, 0, none⟩ 1 1 _ rfl (fun j u hu => by
    match j, hu with
    | 0, hu => simpa [Addr.add] using hu
    | 1, hu => simpa [Addr.add] using hu
    | 2, hu => simpa [Addr.add] using hu
    | 3, hu => simpa [Addr.add] using hu) (by simp [Value.oneCell'])
theorem srcC_at (c : Cz) {w : World} {b : Nat} (h : w.heap[b]? = some (.cells #[.int .i64 c.kind, .string ⟨c.name.toArray⟩, .string ⟨c.dst.toArray⟩, .int .i64 (c.file : Int)] 141)) : Src Tryz.prog 4 72 (.slice (some ⟨b, 0, none⟩) 1 1) 1 [.int .i64 c.kind, .string ⟨c.name.toArray⟩, .string ⟨c.dst.toArray⟩, .int .i64 (c.file : Int)] w :=
  Src.ofSlice (P := Tryz.prog) _ (size := 4) Tryz.underlying72 ⟨b, 0, none⟩ 1 1 _ rfl (fun j u hu => by
    rw [addr0]
    match j, hu with
    | 0, hu => simpa [World.cell?, h] using hu
    | 1, hu => simpa [World.cell?, h] using hu
    | 2, hu => simpa [World.cell?, h] using hu
    | 3, hu => simpa [World.cell?, h] using hu) (by simp [Value.oneCell'])
theorem cellsC_snoc (l : List Cz) (c : Cz) : cellsC (l ++ [c]) = cellsC l ++ [.int .i64 c.kind, .string ⟨c.name.toArray⟩, .string ⟨c.dst.toArray⟩, .int .i64 (c.file : Int)] := by
  simp [cellsC, Cz.cells]
theorem RowZ.off {w : World} {e : TypeId} {size n : Nat} {v : Value} {xs : List Value} (h : RowZ w e size v n xs) {q : Nat} (hq : ∀ k, ob v = some k → k ≠ q) (j : Nat) (u : Value) : RowZ (w.setCell ⟨q, j, none⟩ u) e size v n xs :=
  h.kept fun k hk => heap_setCell_other w ⟨q, j, none⟩ k u (hq k hk)
theorem Row.offZ {w : World} {e : TypeId} {size n : Nat} {v : Value} {xs : List Value} (h : Row w e size v n xs) {q : Nat} (hq : ∀ k, ob v = some k → k ≠ q) (j : Nat) (u : Value) : Row (w.setCell ⟨q, j, none⟩ u) e size v n xs :=
  h.kept fun k hk => heap_setCell_other w ⟨q, j, none⟩ k u (hq k hk)
/-- What stands behind a call on the document's files. -/
def NextR (w : World) (q : Nat) (x : RefV) (s' : St) (w' : World) : Prop := ∃ y, RefAt w' q s' y ∧ Turn [q] w w' ∧ ∀ k ∈ y.foot, k ∈ x.foot ∨ w.heap.size ≤ k
theorem NextR.refl {w : World} {q : Nat} {s : St} {x : RefV} (h : RefAt w q s x) : NextR w q x s w := ⟨x, h, Turn.refl _ _, fun _ hk => .inl hk⟩
theorem NextR.one {w w' : World} {q : Nat} {s : St} {x : RefV} (h : RefAt w' q s x) (ht : Turn [q] w w') : NextR w q x s w' := ⟨x, h, ht, fun _ hk => .inl hk⟩
theorem NextR.trans {a b c : World} {q : Nat} {s' : St} {x y : RefV} (h1 : Turn [q] a b) (h2 : ∀ k ∈ y.foot, k ∈ x.foot ∨ a.heap.size ≤ k) (h : NextR b q y s' c) : NextR a q x s' c := by
  obtain ⟨z, h3, h4, h5⟩ := h
  refine ⟨z, h3, h1.trans h4 fun k hk => .inl hk, fun k hk => ?_⟩
  rcases h5 k hk with h' | h'
  · exact h2 k h'
  · exact .inr (Nat.le_trans h1.size h')
theorem turnZ {w w' : World} (F : List Nat) (h : Below w.heap.size w w') : Turn F w w' := ⟨h.os, h.tape, h.output, h.size, fun k hk _ => h.block k hk⟩
section
variable {w w' : World} {q : Nat} {s s' : St} {x : RefV}
theorem RefAt.put5 (h : RefAt w q s x) {v : Value} {d : Dir} (hv : DirZ w v d) {p : Value} (hp : p = .slice none 0 0) : RefAt ((w.setCell ⟨q, 5, none⟩ v).setCell ⟨q, 7, none⟩ p) q { s with last := d, pend := [] } { x with s := v, p := p, cs := [] } := by
  subst hp
  refine ⟨?_, ?_, ?_, rowZ_nil _ _ _, ?_, rfl, ?_, fun _ hc => (by cases hc)⟩
  · have := heap_setCell_same (w.setCell ⟨q, 5, none⟩ v) q 7 _ _ (.slice none 0 0) (heap_setCell_same w q 5 _ _ v h.box)
    exact this
  · exact (hv.off (rowZ_ne hv h.box (by decide)) 5 v).off (rowZ_ne hv h.box (by decide)) 7 _
  · exact (h.dir.off (rowZ_ne h.dir h.box (by decide)) 5 v).off (rowZ_ne h.dir h.box (by decide)) 7 _
  · exact (h.files.offZ (row_neZ h.files h.box (by decide)) 5 v).offZ (row_neZ h.files h.box (by decide)) 7 _
  · intro k hk
    have : k = 0 := by simpa using hk
    subst this
    rfl
theorem RefAt.put6 (h : RefAt w q s x) {v : Value} {d : Dir} (hv : DirZ w v d) : RefAt (w.setCell ⟨q, 6, none⟩ v) q { s with now := d } { x with d := v } := by
  refine ⟨heap_setCell_same w q 6 _ _ v h.box, ?_, ?_, ?_, ?_, h.len, h.again, h.small⟩
  · exact h.safe.off (rowZ_ne h.safe h.box (by decide)) 6 v
  · exact hv.off (rowZ_ne hv h.box (by decide)) 6 v
  · exact h.pend.off (rowZ_ne h.pend h.box (by decide)) 6 v
  · exact h.files.offZ (row_neZ h.files h.box (by decide)) 6 v
theorem RefAt.put7 (h : RefAt w q s x) {v : Value} {cs : List Cz} {pend : List Chg} (hv : RowZ w 141 4 v cs.length (cellsC cs)) (h5 : cs.length = pend.length) (h6 : ∀ k, k ≤ pend.length → (cs.take k).foldl (fun d c => c.run d) s.last = redo s.last (pend.take k)) (h7 : ∀ c ∈ cs, c.name.length ≤ 9223372036854775807 ∧ c.dst.length ≤ 9223372036854775807) : RefAt (w.setCell ⟨q, 7, none⟩ v) q { s with pend := pend } { x with p := v, cs := cs } := by
  refine ⟨heap_setCell_same w q 7 _ _ v h.box, ?_, ?_, ?_, ?_, h5, h6, h7⟩
  · exact h.safe.off (rowZ_ne h.safe h.box (by decide)) 7 v
  · exact h.dir.off (rowZ_ne h.dir h.box (by decide)) 7 v
  · exact hv.off (rowZ_ne hv h.box (by decide)) 7 v
  · exact h.files.offZ (row_neZ h.files h.box (by decide)) 7 v
theorem RefAt.put8 (h : RefAt w q s x) {v : Value} {fs : List Fil} (hv : Row w 96 2 v fs.length (cellsF fs)) : RefAt (w.setCell ⟨q, 8, none⟩ v) q { s with files := fs } { x with f := v } := by
  refine ⟨heap_setCell_same w q 8 _ _ v h.box, ?_, ?_, ?_, ?_, h.len, h.again, h.small⟩
  · exact h.safe.off (rowZ_ne h.safe h.box (by decide)) 8 v
  · exact h.dir.off (rowZ_ne h.dir h.box (by decide)) 8 v
  · exact h.pend.off (rowZ_ne h.pend h.box (by decide)) 8 v
  · exact hv.offZ (row_neZ hv h.box (by decide)) 8 v
theorem again_snoc {last : Dir} {cs : List Cz} {pend : List Chg} {c : Cz} {g : Chg} (hl : cs.length = pend.length) (h : ∀ k, k ≤ pend.length → (cs.take k).foldl (fun d c => c.run d) last = redo last (pend.take k)) (hr : c.run (redo last pend) = g.run (redo last pend)) :
    ∀ k, k ≤ (pend ++ [g]).length → ((cs ++ [c]).take k).foldl (fun d c => c.run d) last = redo last ((pend ++ [g]).take k) := by
  intro k hk
  rw [List.length_append, List.length_cons, List.length_nil] at hk
  by_cases h1 : k ≤ pend.length
  · rw [List.take_append_of_le_length (by omega), List.take_append_of_le_length h1]
    exact h k h1
  · have hk2 : k = pend.length + 1 := by omega
    have e1 : (cs ++ [c]).take k = cs ++ [c] := List.take_of_length_le (by simp; omega)
    have e2 : (pend ++ [g]).take k = pend ++ [g] := List.take_of_length_le (by simp; omega)
    have h2 := h pend.length (Nat.le_refl _)
    rw [List.take_length, ← hl, List.take_length] at h2
    rw [e1, e2, redo_snoc, List.foldl_append, h2]
    exact hr
set_option maxHeartbeats 8000000 in
set_option maxRecDepth 100000 in
theorem rdo_any (h : RefAt w q s x) (c : Cz) (g : Chg) (hrun : c.run s.now = g.run s.now) (hcoh : s.now = redo s.last s.pend) (hl : s.now.length ≤ 1000000) (hp : s.pend.length ≤ 1000000) (hn : c.name.length ≤ 9223372036854775807) (ht : c.dst.length ≤ 9223372036854775807) (hk : ∀ p ∈ s.now, p.1.length ≤ 9223372036854775807) :
    Calls Tryz.prog 125 #[.pointer (some ⟨q, 0, none⟩), .agg #[.int .i64 c.kind, .string ⟨c.name.toArray⟩, .string ⟨c.dst.toArray⟩, .int .i64 (c.file : Int)]] w fun e w' => e = .returned (.tuple #[]) ∧ NextR w q x (s.doing g) w' := by
  obtain ⟨i0, hi, hz0, hzs, hzb⟩ := info_parts infoCZ
  obtain ⟨W, hW⟩ : ∃ W, w.alloc (.cells #[.int .i64 c.kind, .string ⟨c.name.toArray⟩, .string ⟨c.dst.toArray⟩, .int .i64 (c.file : Int)] 141) = W := ⟨_, rfl⟩
  have hbW : Below w.heap.size w W := by rw [← hW]; exact (Below.refl _ _).alloc (Nat.le_refl _) _
  have hsz : w.heap.size < W.heap.size := by rw [← hW]; simp
  have hblk : W.heap[w.heap.size]? = some (.cells #[.int .i64 c.kind, .string ⟨c.name.toArray⟩, .string ⟨c.dst.toArray⟩, .int .i64 (c.file : Int)] 141) := by rw [← hW]; exact blockZ _ _ rfl
  have x0 : W.cell? ⟨w.heap.size, 0, none⟩ = some (.int .i64 c.kind) := by simp [World.cell?, hblk]
  have x1 : W.cell? ⟨w.heap.size, 1, none⟩ = some (.string ⟨c.name.toArray⟩) := by simp [World.cell?, hblk]
  have x2 : W.cell? ⟨w.heap.size, 2, none⟩ = some (.string ⟨c.dst.toArray⟩) := by simp [World.cell?, hblk]
  have x3 : W.cell? ⟨w.heap.size, 3, none⟩ = some (.int .i64 (c.file : Int)) := by simp [World.cell?, hblk]
  have hRW := h.below hbW
  have c6 := hRW.cell 6 x.d rfl
  have HRW := Lib.hid hRW
  have HBW := Lib.hid hbW
  have CC := Lib.hid (show ∀ W', Below w.heap.size w W' → _ from fun W' hb => change_any (h.below hb).dir c hl hn ht hk)
  have hqlt := h.lt
  have HAG := Lib.hid (again_snoc (c := c) (g := g) h.len h.again (by rw [← hcoh]; exact hrun))
  have HLN := Lib.hid h.len
  have HSM := Lib.hid (show ∀ e ∈ x.cs ++ [c], e.name.length ≤ 9223372036854775807 ∧ e.dst.length ≤ 9223372036854775807 from fun e he => by
    rcases List.mem_append.1 he with h1 | h1
    · exact h.small e h1
    · have : e = c := by simpa using h1
      subst this
      exact ⟨hn, ht⟩)
  have HRUN := Lib.hid hrun
  have hcl : x.cs.length ≤ 1000000 := by rw [h.len]; exact hp
  clear hbW hblk h hk hRW hrun hcoh
  go_enter Tryz.func125, Tryz.ntmps125
  go_wp2_with fail
  go_region_law (first | (go_simp; go_at_call 129; (with_reducible refine (CC.out _ HBW.out.drew).mono ?_); rintro e w3 ⟨v3, rfl, hrow3, hfr3, hb3⟩; obtain ⟨av3, cap3, hv3e, -, -⟩ := hrow3.le; subst hv3e; have HR3 := Lib.hid ((HRW.out.below (Below.refl _ _).drew).below hb3); have s6 := HR3.out.cell 6 x.d rfl; have s6f := HR3.out.warm 6; go_wp2_with fail) | fail)
  all_goals
    have hR4 := HR3.out.put6 hrow3
    have ht4 : Turn [q] w (w3.setCell ⟨q, 6, none⟩ (.slice av3 (c.run s.now).length cap3)) := (turnZ [q] (HBW.out.drew.trans (hb3.mono HBW.out.size))).setCell (.inl (by simp)) _
    have y0 : (w3.setCell ⟨q, 6, none⟩ (.slice av3 (c.run s.now).length cap3)).cell? ⟨w.heap.size, 0, none⟩ = some (.int .i64 c.kind) := (World.cell?_setCell_other w3 _ _ (.slice av3 (c.run s.now).length cap3) (fun e => by cases e)).trans ((hb3.cell (p := ⟨w.heap.size, 0, none⟩) hsz).trans x0)
    have y1 : (w3.setCell ⟨q, 6, none⟩ (.slice av3 (c.run s.now).length cap3)).cell? ⟨w.heap.size, 1, none⟩ = some (.string ⟨c.name.toArray⟩) := (World.cell?_setCell_other w3 _ _ (.slice av3 (c.run s.now).length cap3) (fun e => by cases e)).trans ((hb3.cell (p := ⟨w.heap.size, 1, none⟩) hsz).trans x1)
    have y2 : (w3.setCell ⟨q, 6, none⟩ (.slice av3 (c.run s.now).length cap3)).cell? ⟨w.heap.size, 2, none⟩ = some (.string ⟨c.dst.toArray⟩) := (World.cell?_setCell_other w3 _ _ (.slice av3 (c.run s.now).length cap3) (fun e => by cases e)).trans ((hb3.cell (p := ⟨w.heap.size, 2, none⟩) hsz).trans x2)
    have y3 : (w3.setCell ⟨q, 6, none⟩ (.slice av3 (c.run s.now).length cap3)).cell? ⟨w.heap.size, 3, none⟩ = some (.int .i64 (c.file : Int)) := (World.cell?_setCell_other w3 _ _ (.slice av3 (c.run s.now).length cap3) (fun e => by cases e)).trans ((hb3.cell (p := ⟨w.heap.size, 3, none⟩) hsz).trans x3)
    have hbt : w.heap.size < (w3.setCell ⟨q, 6, none⟩ (.slice av3 (c.run s.now).length cap3)).heap.size := by
      have := hb3.size
      simp at this ⊢
      omega
    have HFR := Lib.hid (show ∀ b, ob (.slice av3 (c.run s.now).length cap3) = some b → w.heap.size ≤ b from fun b hb => by have := hfr3 b hb; simp at this; omega)
    clear s6 s6f hb3 hrow3 hfr3
    obtain ⟨wt, hwt⟩ : ∃ wt, w3.setCell ⟨q, 6, none⟩ (.slice av3 (c.run s.now).length cap3) = wt := ⟨_, rfl⟩
    rw [hwt] at hR4 ht4 y0 y1 y2 y3 hbt
    rw [hwt]
    have HRT := Lib.hid hR4
    have HTT := Lib.hid ht4
    have c7 := hR4.cell 7 x.p rfl
    have hqt : q < wt.heap.size := hR4.lt
    clear hwt hR4 ht4
    have HS1 := Lib.hid (show ∀ W', Below wt.heap.size wt W' → Src Tryz.prog 4 72 x.p x.cs.length (cellsC x.cs) W' from fun W' hb => (HRT.out.below hb).pend.src Tryz.underlying72 (cellsC_one _))
    have HBa := Lib.hid (show 0 + x.cs.length ≤ maxLen by unfold maxLen; omega)
    have HBb := Lib.hid (show (0 + x.cs.length) * 48 ≤ 140737488355328 by omega)
    have HBc := Lib.hid (show x.cs.length + 1 ≤ maxLen by unfold maxLen; omega)
    have HBd := Lib.hid (show (x.cs.length + 1) * 48 ≤ 140737488355328 by omega)
    go_wp2_with fail
    go_region_law (first | (refine step_append_row _ rfl (.const (.slice none 0 0)) (.tmp 17) 72 72 rfl 141 i0 _ 4 48 Tryz.underlying72 hi hz0 hzs hzb rfl (.slice none 0 0) 0 [] rfl (row_nil _ _ _) _ (by simp [Act.eval]) x.cs.length (cellsC x.cs) (HS1.out _ ((Below.refl _ _).drew)) HBa.out HBb.out ?_; intro v1 w1 hrow1 hgrow1 hob1; have hB1 : Below wt.heap.size wt w1 := below_row2 ((Below.refl _ _).drew) (Nat.le_refl _) hgrow1 (fun b hb => noneZ hb); have hv1 : ∀ b, ob v1 = some b → wt.heap.size ≤ b := fun b hb => ob_new2 hob1 (Nat.le_refl _) (fun b hb => noneZ hb) b hb; rw [Nat.zero_add, List.nil_append] at hrow1; have k0 := (hB1.cell (p := ⟨w.heap.size, 0, none⟩) hbt).trans y0; have k1 := (hB1.cell (p := ⟨w.heap.size, 1, none⟩) hbt).trans y1; have k2 := (hB1.cell (p := ⟨w.heap.size, 2, none⟩) hbt).trans y2; have k3 := (hB1.cell (p := ⟨w.heap.size, 3, none⟩) hbt).trans y3) | (refine step_append_row _ rfl (.const (.slice none 0 0)) (.tmp 17) 72 72 rfl 141 i0 _ 4 48 Tryz.underlying72 hi hz0 hzs hzb rfl (.slice none 0 0) 0 [] rfl (row_nil _ _ _) _ (by simp [Act.eval]) x.cs.length (cellsC x.cs) (HS1.out _ (((Below.refl _ _).drew).alloc (Nat.le_refl _) _)) HBa.out HBb.out ?_; intro v1 w1 hrow1 hgrow1 hob1; have hB1 : Below wt.heap.size wt w1 := below_row2 (((Below.refl _ _).drew).alloc (Nat.le_refl _) _) (Nat.le_refl _) hgrow1 (fun b hb => noneZ hb); have hv1 : ∀ b, ob v1 = some b → wt.heap.size ≤ b := fun b hb => ob_new2 hob1 (by simp) (fun b hb => noneZ hb) b hb; rw [Nat.zero_add, List.nil_append] at hrow1; have hsx := (hgrow1.block wt.heap.size (by simp) (fun e => noneZ e.symm)).trans (blockZ _ _ (by simp))) | (refine step_append_row _ rfl (.tmp 18) (.tmp 20) 72 72 rfl 141 i0 _ 4 48 Tryz.underlying72 hi hz0 hzs hzb rfl v1 x.cs.length (cellsC x.cs) (by simp [Act.eval]) (rowZ_below hrow1 ((Below.refl _ _).alloc (Nat.le_refl _) _)) _ (by simp [Act.eval]) 1 [.int .i64 c.kind, .string ⟨c.name.toArray⟩, .string ⟨c.dst.toArray⟩, .int .i64 (c.file : Int)] (srcC_new c _) HBc.out HBd.out ?_; intro v2 w2 hrow2 hgrow2 hob2; have hB2 : Below wt.heap.size wt w2 := below_row2 (hB1.alloc hB1.size _) (Nat.le_refl _) hgrow2 hv1; have hv2 : ∀ b, ob v2 = some b → wt.heap.size ≤ b := fun b hb => ob_new2 hob2 (by have := hB1.size; simp; omega) hv1 b hb; obtain ⟨av2, cap2, hv2e, -, -⟩ := hrow2.le; subst hv2e; have HR2 := Lib.hid (HRT.out.below hB2); have s7 := HR2.out.cell 7 x.p rfl; have s7f := HR2.out.warm 7) | (refine step_append_row _ rfl (.tmp 18) (.tmp 20) 72 72 rfl 141 i0 _ 4 48 Tryz.underlying72 hi hz0 hzs hzb rfl v1 x.cs.length (cellsC x.cs) (by simp [Act.eval]) hrow1 _ (by simp [Act.eval]) 1 [.int .i64 c.kind, .string ⟨c.name.toArray⟩, .string ⟨c.dst.toArray⟩, .int .i64 (c.file : Int)] (srcC_at c hsx) HBc.out HBd.out ?_; intro v2 w2 hrow2 hgrow2 hob2; have hB2 : Below wt.heap.size wt w2 := below_row2 hB1 (Nat.le_refl _) hgrow2 hv1; have hv2 : ∀ b, ob v2 = some b → wt.heap.size ≤ b := fun b hb => ob_new2 hob2 hB1.size hv1 b hb; obtain ⟨av2, cap2, hv2e, -, -⟩ := hrow2.le; subst hv2e; have HR2 := Lib.hid (HRT.out.below hB2); have s7 := HR2.out.cell 7 x.p rfl; have s7f := HR2.out.warm 7) | fail)
    all_goals go_wp2
    all_goals go_end0
    all_goals
      rw [show s.doing g = { { s with now := c.run s.now } with pend := s.pend ++ [g] } by unfold St.doing; rw [HRUN.out]]
      refine ⟨rfl, _, HR2.out.put7 (cs := x.cs ++ [c]) (pend := s.pend ++ [g]) ⟨?_, fun h0 => by simp at h0⟩ (by rw [List.length_append, List.length_append, HLN.out]; rfl) HAG.out HSM.out, ?_, ?_⟩
      · rw [List.length_append, cellsC_snoc]
        exact hrow2
      · exact (HTT.out.trans (turnZ [q] hB2) (by simp)).setCell (.inl (by simp)) _
      · intro k hk
        simp only [RefV.foot, List.mem_append, Option.mem_toList] at hk
        rcases hk with ((hk | hk) | hk) | hk
        · exact .inl (by simp [RefV.foot, hk])
        · exact .inr (HFR.out k hk)
        · exact .inr (Nat.le_trans HTT.out.size (hv2 k hk))
        · exact .inl (by simp [RefV.foot, hk])
end
end Go.Proofs.YtfndlfnlepndmaaGreat
