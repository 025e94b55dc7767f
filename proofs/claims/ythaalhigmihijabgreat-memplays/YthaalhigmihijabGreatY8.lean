/- skip's Put. -/
import Derived.Test.YthaalhigmihijabGreatY7
namespace Go.Proofs.YthaalhigmihijabGreat
open Go.RowKit

/-- A tower's height. -/
def lvl (z : Int) : Nat := (min (max z 1) 8).toNat
theorem lvl_le (z : Int) : 1 ≤ lvl z ∧ lvl z ≤ 8 := by unfold lvl; omega
theorem fol_form (i : Nat) : ∀ Q : List Nd, ∃ o : Option Addr, fol i Q = .pointer o
  | [] => ⟨none, rfl⟩
  | n :: Q => by
    unfold fol
    split
    · exact ⟨_, rfl⟩
    · exact fol_form i Q
theorem node_new {a : Nat} {x : Ent} {Q : List Nd} {w : World} (h : w.heap[a]? = some (.cells #[.string x.k, .int .u64 x.s, .int .i64 x.n, .string x.v, .pointer none, .pointer none, .pointer none, .pointer none, .pointer none, .pointer none, .pointer none, .pointer none] 38)) : NodeAt w ⟨a, x, 0⟩ Q := by
  have hc : ∀ j v, (#[.string x.k, .int .u64 x.s, .int .i64 x.n, .string x.v, .pointer none, .pointer none, .pointer none, .pointer none, .pointer none, .pointer none, .pointer none, .pointer none] : Array Value)[j]? = some v → w.cell? ⟨a, j, none⟩ = some v := fun j v hv => by
    simp only [World.cell?, h]
    exact hv
  refine ⟨fun j u hu => ?_, fun i hi => ?_, fun j => by simp [World.frozen?, h]⟩
  · match j, hu with
    | 0, hu => exact (hc 0 _ rfl).trans hu
    | 1, hu => exact (hc 1 _ rfl).trans hu
    | 2, hu => exact (hc 2 _ rfl).trans hu
    | 3, hu => exact (hc 3 _ rfl).trans hu
  · rw [if_neg (show ¬ i < (⟨a, x, 0⟩ : Nd).l from Nat.not_lt_zero _)]
    match i, hi with
    | 0, _ => exact hc 4 _ rfl
    | 1, _ => exact hc 5 _ rfl
    | 2, _ => exact hc 6 _ rfl
    | 3, _ => exact hc 7 _ rfl
    | 4, _ => exact hc 8 _ rfl
    | 5, _ => exact hc 9 _ rfl
    | 6, _ => exact hc 10 _ rfl
    | 7, _ => exact hc 11 _ rfl
/-- A version of this key and number is there. -/
def there (x : Ent) : List Nd → Bool
  | [] => false
  | y :: _ => cmpE y.e.k y.e.s x.k x.s == 0
theorem ahead_ms {p c : Nat} {ns P Q : List Nd} {k : ByteArray} {s : Int} (n : Int) (v : ByteArray) {w : World} (h : Lst p c ns w) (hr : Right ns) (hc : Cut k s ns P Q) :
    Calls Tryz.prog 137 #[.pointer (some ⟨p, 0, none⟩), ev k s n v] w fun e w' => ∃ m : Nat → Nd, e = .returned (.agg #[.pointer (some ⟨(m 0).a, 0, none⟩), .pointer (some ⟨(m 1).a, 0, none⟩), .pointer (some ⟨(m 2).a, 0, none⟩), .pointer (some ⟨(m 3).a, 0, none⟩), .pointer (some ⟨(m 4).a, 0, none⟩), .pointer (some ⟨(m 5).a, 0, none⟩), .pointer (some ⟨(m 6).a, 0, none⟩), .pointer (some ⟨(m 7).a, 0, none⟩)]) ∧ (∀ j, j < 8 → IsLast j (hd p :: P) (m j)) ∧ Below w.heap.size w w' := by
  refine (ahead_any n v h hr hc).mono ?_
  rintro e w' ⟨g, rfl, hg, hb⟩
  classical
  refine ⟨fun j => if hj : j < 8 then Classical.choose (hg j hj) else hd p, ?_, fun j hj => ?_, hb⟩
  · have e : ∀ j (hj : j < 8), g j = .pointer (some ⟨(if hj : j < 8 then Classical.choose (hg j hj) else hd p).a, 0, none⟩) := fun j hj => by
      rw [dif_pos hj]
      exact (Classical.choose_spec (hg j hj)).1
    rw [← e 0 (by omega), ← e 1 (by omega), ← e 2 (by omega), ← e 3 (by omega), ← e 4 (by omega), ← e 5 (by omega), ← e 6 (by omega), ← e 7 (by omega)]
  · simp only [hj, dite_true]
    exact (Classical.choose_spec (hg j hj)).2
set_option maxHeartbeats 2000000 in
set_option maxRecDepth 100000 in
theorem put_bad {p : Nat} {w : World} (x : Ent) (z : Int) (hk : x.k.size ≤ maxLen) (hv : x.v.size ≤ maxLen) (hb : validB x.k x.n x.v = false) :
    Calls Tryz.prog 101 #[.pointer (some ⟨p, 0, none⟩), ev x.k x.s x.n x.v, .int .i64 z] w fun e w' => e = .returned (.bool false) ∧ Below w.heap.size w w' := by
  have C := Lib.hid (fun W => valid_any x.k x.s x.n x.v W hk hv)
  rw [hb] at C
  unfold ev at C ⊢
  have hW : Below w.heap.size w (w.alloc (.cells #[.string x.k, .int .u64 x.s, .int .i64 x.n, .string x.v] 34)) := (Below.refl _ _).alloc (Nat.le_refl _) _
  have HW := Lib.hid hW
  clear hW
  go_enter Tryz.func101, Tryz.ntmps101
  go_wp2_with (first | (go_at_call 136; (with_reducible refine (C.out _).mono ?_); rintro e w1 ⟨rfl, hb1⟩) | fail)
  go_ret
  exact ⟨rfl, HW.out.trans (hb1.mono HW.out.size)⟩
set_option maxHeartbeats 4000000 in
set_option maxRecDepth 100000 in
theorem put_twice {p c : Nat} {ns P Q : List Nd} {w : World} (x : Ent) (z : Int) (h : Lst p c ns w) (hr : Right ns) (hc : Cut x.k x.s ns P Q) (hk : x.k.size ≤ maxLen) (hv : x.v.size ≤ maxLen) (hb : validB x.k x.n x.v = true) (ht : there x Q = true) :
    Calls Tryz.prog 101 #[.pointer (some ⟨p, 0, none⟩), ev x.k x.s x.n x.v, .int .i64 z] w fun e w' => e = .returned (.bool false) ∧ Below w.heap.size w w' := by
  have C := Lib.hid (fun W => valid_any x.k x.s x.n x.v W hk hv)
  rw [hb] at C
  cases Q with
  | nil => cases ht
  | cons y r =>
    have hy : cmpE y.e.k y.e.s x.k x.s = 0 := by simpa [there] using ht
    have CC := Lib.hid (fun W => compare_any y.e.k y.e.s y.e.n y.e.v x.k x.s x.n x.v W)
    rw [hy] at CC
    have hyn : y ∈ ns := by rw [hc.all]; simp
    have HQL := Lib.hid (show ∀ n ∈ y :: r, 1 ≤ n.l from fun n hn => hr.lev n (by rw [hc.all]; exact List.mem_append.2 (.inr hn)))
    obtain ⟨W, hW⟩ : ∃ W, w.alloc (.cells #[.string x.k, .int .u64 x.s, .int .i64 x.n, .string x.v] 34) = W := ⟨_, rfl⟩
    have hB : Below w.heap.size w W := by rw [← hW]; exact (Below.refl _ _).alloc (Nat.le_refl _) _
    have hx : Boxe w.heap.size x.k x.s x.n x.v W := by rw [← hW]; exact new_block _ _ rfl
    have CA := Lib.hid (fun w1 (h1 : Below W.heap.size W w1) => ahead_ms x.n x.v ((h.below hB).below h1) hr hc)
    have HH := Lib.hid h
    have HC := Lib.hid hc
    have HB := Lib.hid hB
    have HX := Lib.hid hx
    unfold ev at C CC CA ⊢
    have HY := Lib.hid (show ∀ w', Below w.heap.size w w' → ∃ r, NodeAt w' y r from fun w' hb => (h.below hb).node (by simp [hyn]))
    have b0 := hx.c0
    have b1 := hx.c1
    have b2 := hx.c2
    have b3 := hx.c3
    clear h hr hc hy hyn ht hB hx
    go_enter Tryz.func101, Tryz.ntmps101
    go_wp2_with (first | (go_at_call 136; (with_reducible refine (C.out _).mono ?_); rintro e w1 ⟨rfl, hb1⟩; have hx1 := HX.out.below hb1; have b10 := hx1.c0; have b11 := hx1.c1; have b12 := hx1.c2; have b13 := hx1.c3) | fail)
    (with_reducible refine (CA.out w1 hb1).mono ?_)
    rintro e w2 ⟨m, rfl, hm, hb2⟩
    go_upto_region 4 with fail
    obtain ⟨W3, hW3⟩ : ∃ W3, w2.alloc (.cells #[.pointer (some ⟨(m 0).a, 0, none⟩), .pointer (some ⟨(m 1).a, 0, none⟩), .pointer (some ⟨(m 2).a, 0, none⟩), .pointer (some ⟨(m 3).a, 0, none⟩), .pointer (some ⟨(m 4).a, 0, none⟩), .pointer (some ⟨(m 5).a, 0, none⟩), .pointer (some ⟨(m 6).a, 0, none⟩), .pointer (some ⟨(m 7).a, 0, none⟩)] 36) = W3 := ⟨_, rfl⟩
    have hB2 : Below w.heap.size w w2 := HB.out.trans ((hb1.trans (hb2.mono hb1.size)).mono HB.out.size)
    have hb3 : Below w2.heap.size w2 W3 := by rw [← hW3]; exact (Below.refl _ _).alloc (Nat.le_refl _) _
    have hB3 : Below w.heap.size w W3 := hB2.trans (hb3.mono hB2.size)
    have ho : Outs w2.heap.size (fun j => .pointer (some ⟨(m j).a, 0, none⟩)) W3 := by rw [← hW3]; exact new_block _ _ rfl
    have hx3 : Boxe w.heap.size x.k x.s x.n x.v W3 := (hx1.below hb2).below hb3
    obtain ⟨cm, -, -⟩ := (HH.out.below hB3).last HC.out.all (hm 0 (by omega)) (by omega)
    rw [fol0 HQL.out] at cm
    have o0 : W3.cell? ⟨w2.heap.size, 0, none⟩ = some (.pointer (some ⟨(m 0).a, 0, none⟩)) := ho.cell (by omega)
    rw [hW3]
    have HB3 := Lib.hid hB3
    have HM := Lib.hid hm
    have HO := Lib.hid ho
    have HX3 := Lib.hid hx3
    have q0 := hx3.c0
    have q1 := hx3.c1
    have q2 := hx3.c2
    have q3 := hx3.c3
    clear hW3 hm hB2 hb3 ho hb1 hb2 hx1 b10 b11 b12 b13 b0 b1 b2 b3
    obtain ⟨r', hy⟩ := HY.out W3 hB3
    have c4 : W3.cell? ⟨(m 0).a, 4, none⟩ = some (.pointer (some ⟨y.a, 0, none⟩)) := cm
    have y0 := hy.c0
    have y1 := hy.c1
    have y2 := hy.c2
    have y3 := hy.c3
    have hylt := hy.lt
    have hxlt := hx3.lt
    clear cm hy hx3 hB3
    go_wp2_with fail
    go_region_held3 (fun w' => w'.cell? ⟨y.a, 0, none⟩ = some (.string y.e.k) ∧ w'.cell? ⟨y.a, 1, none⟩ = some (.int .u64 y.e.s) ∧ w'.cell? ⟨y.a, 2, none⟩ = some (.int .i64 y.e.n) ∧ w'.cell? ⟨y.a, 3, none⟩ = some (.string y.e.v) ∧ w'.cell? ⟨w.heap.size, 0, none⟩ = some (.string x.k) ∧ w'.cell? ⟨w.heap.size, 1, none⟩ = some (.int .u64 x.s) ∧ w'.cell? ⟨w.heap.size, 2, none⟩ = some (.int .i64 x.n) ∧ w'.cell? ⟨w.heap.size, 3, none⟩ = some (.string x.v)) (first | go_keep | exact ⟨z2, z3, z4, z5, z6, z7, z8, z9⟩) (first | (go_at_call 138; (with_reducible refine (CC.out _).mono ?_); rintro e wy ⟨rfl, hby⟩; have z2 := (hby.cell (p := ⟨y.a, 0, none⟩) hylt).trans y0; have z3 := (hby.cell (p := ⟨y.a, 1, none⟩) hylt).trans y1; have z4 := (hby.cell (p := ⟨y.a, 2, none⟩) hylt).trans y2; have z5 := (hby.cell (p := ⟨y.a, 3, none⟩) hylt).trans y3; have z6 := (hby.cell (p := ⟨w.heap.size, 0, none⟩) hxlt).trans q0; have z7 := (hby.cell (p := ⟨w.heap.size, 1, none⟩) hxlt).trans q1; have z8 := (hby.cell (p := ⟨w.heap.size, 2, none⟩) hxlt).trans q2; have z9 := (hby.cell (p := ⟨w.heap.size, 3, none⟩) hxlt).trans q3) | fail)
    all_goals go_wp2
    all_goals go_ret
    all_goals exact ⟨rfl, HB3.out.drew.trans (hby.mono HB3.out.size)⟩
/-- What stands behind the list in its own block stays. -/
def Tail (p : Nat) (w w' : World) : Prop := ∀ j, 12 < j → w'.cell? ⟨p, j, none⟩ = w.cell? ⟨p, j, none⟩
theorem tail_below {p : Nat} {w w' : World} (h : Below w.heap.size w w') (hp : p < w.heap.size) : Tail p w w' := fun j _ => h.cell (p := ⟨p, j, none⟩) hp
theorem Tail.set {p : Nat} {w w' : World} (h : Tail p w w') {i : Nat} (hi : i ≤ 12) (b : Nat) (v : Value) : Tail p w (w'.setCell ⟨b, i, none⟩ v) := fun j hj =>
  (World.cell?_setCell_other _ _ _ _ (fun q => by injection q with q1 q2; omega)).trans (h j hj)
def TurnT (p : Nat) (ns : List Nd) (w w' : World) : Prop := Turn (foot p ns) w w' ∧ Tail p w w'
theorem TurnT.drew {p : Nat} {ns : List Nd} {w w' : World} (h : TurnT p ns w w') : TurnT p ns w w'.drew := ⟨h.1.drew, fun j hj => h.2 j hj⟩
set_option maxHeartbeats 8000000 in
set_option maxRecDepth 100000 in
theorem put_yes_t {p c : Nat} {ns P Q : List Nd} {w : World} (x : Ent) (z : Int) (h : Lst p c ns w) (hr : Right ns) (hc : Cut x.k x.s ns P Q) (hk : x.k.size ≤ maxLen) (hv : x.v.size ≤ maxLen) (hb : validB x.k x.n x.v = true) (ht : there x Q = false) (hcc : c ≤ 1000000) :
    Calls Tryz.prog 101 #[.pointer (some ⟨p, 0, none⟩), ev x.k x.s x.n x.v, .int .i64 z] w fun e w' => e = .returned (.bool true) ∧ ∃ a, w.heap.size ≤ a ∧ Lst p (c + 1) (P ++ ⟨a, x, lvl z⟩ :: Q) w' ∧ TurnT p ns w w' := by
  have C := Lib.hid (fun W => valid_any x.k x.s x.n x.v W hk hv)
  rw [hb] at C
  have hkv : x.k.size ≤ 300 ∧ x.v.size ≤ 60000 := by
    unfold validB at hb
    simp at hb
    omega
  have CF := Lib.hid (fun W => fresh_any x.k x.s x.n x.v W (by omega) (by omega))
  obtain ⟨W, hW⟩ : ∃ W, w.alloc (.cells #[.string x.k, .int .u64 x.s, .int .i64 x.n, .string x.v] 34) = W := ⟨_, rfl⟩
  have hB : Below w.heap.size w W := by rw [← hW]; exact (Below.refl _ _).alloc (Nat.le_refl _) _
  have hx : Boxe w.heap.size x.k x.s x.n x.v W := by rw [← hW]; exact new_block _ _ rfl
  have CA := Lib.hid (fun w1 (h1 : Below W.heap.size W w1) => ahead_ms x.n x.v ((h.below hB).below h1) hr hc)
  have HQL := Lib.hid (show ∀ n ∈ Q, 1 ≤ n.l from fun n hn => hr.lev n (by rw [hc.all]; exact List.mem_append.2 (.inr hn)))
  have HH := Lib.hid h
  have HC := Lib.hid hc
  have HB := Lib.hid hB
  have HX := Lib.hid hx
  have HT := Lib.hid ht
  have b0 := hx.c0
  have b1 := hx.c1
  have b2 := hx.c2
  have b3 := hx.c3
  unfold ev at C CA CF ⊢
  clear h hr hc ht hB hx
  go_enter Tryz.func101, Tryz.ntmps101
  go_wp2_with (first | (go_at_call 136; (with_reducible refine (C.out _).mono ?_); rintro e w1 ⟨rfl, hb1⟩; have hx1 := HX.out.below hb1; have b10 := hx1.c0; have b11 := hx1.c1; have b12 := hx1.c2; have b13 := hx1.c3) | fail)
  (with_reducible refine (CA.out w1 hb1).mono ?_)
  rintro e w2 ⟨m, rfl, hm, hb2⟩
  go_upto_region 4 with fail
  obtain ⟨W3, hW3⟩ : ∃ W3, w2.alloc (.cells #[.pointer (some ⟨(m 0).a, 0, none⟩), .pointer (some ⟨(m 1).a, 0, none⟩), .pointer (some ⟨(m 2).a, 0, none⟩), .pointer (some ⟨(m 3).a, 0, none⟩), .pointer (some ⟨(m 4).a, 0, none⟩), .pointer (some ⟨(m 5).a, 0, none⟩), .pointer (some ⟨(m 6).a, 0, none⟩), .pointer (some ⟨(m 7).a, 0, none⟩)] 36) = W3 := ⟨_, rfl⟩
  have hB2 : Below w.heap.size w w2 := HB.out.trans ((hb1.trans (hb2.mono hb1.size)).mono HB.out.size)
  have hB2s : w.heap.size ≤ w2.heap.size := hB2.size
  have hb3 : Below w2.heap.size w2 W3 := by rw [← hW3]; exact (Below.refl _ _).alloc (Nat.le_refl _) _
  have hB3 : Below w.heap.size w W3 := hB2.trans (hb3.mono hB2.size)
  have ho : Outs w2.heap.size (fun j => .pointer (some ⟨(m j).a, 0, none⟩)) W3 := by rw [← hW3]; exact new_block _ _ rfl
  have hx3 : Boxe w.heap.size x.k x.s x.n x.v W3 := (hx1.below hb2).below hb3
  obtain ⟨cm, -, -⟩ := (HH.out.below hB3).last HC.out.all (hm 0 (by omega)) (by omega)
  rw [fol0 HQL.out] at cm
  have o0 : W3.cell? ⟨w2.heap.size, 0, none⟩ = some (.pointer (some ⟨(m 0).a, 0, none⟩)) := ho.cell (by omega)
  rw [hW3]
  have HB3 := Lib.hid hB3
  have HM := Lib.hid hm
  have HO := Lib.hid ho
  have HX3 := Lib.hid hx3
  have q0 := hx3.c0
  have q1 := hx3.c1
  have q2 := hx3.c2
  have q3 := hx3.c3
  clear hW3 hm hB2 hb3 ho hb1 hb2 hx1 b10 b11 b12 b13 b0 b1 b2 b3
  have HO2S := Lib.hid (show w.heap.size ≤ w2.heap.size from hB2s)
  have HO2F := Lib.hid (show w2.heap.size ∉ foot p ns from fun hm' => by have := HH.out.lt _ hm'; omega)
  have c4 : W3.cell? ⟨(m 0).a, 4, none⟩ = some (headP Q) := cm
  clear cm hx3 hB3
  go_upto_region 5 with fail
  go_cut [37] from 27 to 36 (fun bv wx => bv = .bool false ∧ Below W3.heap.size W3 wx)
  case first =>
    cases Q with
    | nil =>
      rw [show headP [] = .pointer none from rfl]
      go_quiet (fail)
      go_wp2
      go_meet
      exact ⟨rfl, belowN (Below.refl _ _) _⟩
    | cons y r =>
      have hy : (cmpE y.e.k y.e.s x.k x.s == 0) = false := HT.out
      have CC := Lib.hid (fun W => compare_any y.e.k y.e.s y.e.n y.e.v x.k x.s x.n x.v W)
      generalize cmpE y.e.k y.e.s x.k x.s = zc at CC hy
      unfold ev at CC
      obtain ⟨r', hyn⟩ := (HH.out.below HB3.out).node (show y ∈ hd p :: ns by rw [HC.out.all]; simp)
      have y0 := hyn.c0
      have y1 := hyn.c1
      have y2 := hyn.c2
      have y3 := hyn.c3
      have hylt := hyn.lt
      have hxlt := HX3.out.lt
      clear hyn
      rw [show headP (y :: r) = .pointer (some ⟨y.a, 0, none⟩) from rfl]
      go_region_held3 (fun w' => w'.cell? ⟨y.a, 0, none⟩ = some (.string y.e.k) ∧ w'.cell? ⟨y.a, 1, none⟩ = some (.int .u64 y.e.s) ∧ w'.cell? ⟨y.a, 2, none⟩ = some (.int .i64 y.e.n) ∧ w'.cell? ⟨y.a, 3, none⟩ = some (.string y.e.v) ∧ w'.cell? ⟨w.heap.size, 0, none⟩ = some (.string x.k) ∧ w'.cell? ⟨w.heap.size, 1, none⟩ = some (.int .u64 x.s) ∧ w'.cell? ⟨w.heap.size, 2, none⟩ = some (.int .i64 x.n) ∧ w'.cell? ⟨w.heap.size, 3, none⟩ = some (.string x.v)) (first | go_keep | exact ⟨z2, z3, z4, z5, z6, z7, z8, z9⟩) (first | (go_at_call 138; (with_reducible refine (CC.out _).mono ?_); rintro e wy ⟨rfl, hby⟩; have z2 := (hby.cell (p := ⟨y.a, 0, none⟩) hylt).trans y0; have z3 := (hby.cell (p := ⟨y.a, 1, none⟩) hylt).trans y1; have z4 := (hby.cell (p := ⟨y.a, 2, none⟩) hylt).trans y2; have z5 := (hby.cell (p := ⟨y.a, 3, none⟩) hylt).trans y3; have z6 := (hby.cell (p := ⟨w.heap.size, 0, none⟩) hxlt).trans q0; have z7 := (hby.cell (p := ⟨w.heap.size, 1, none⟩) hxlt).trans q1; have z8 := (hby.cell (p := ⟨w.heap.size, 2, none⟩) hxlt).trans q2; have z9 := (hby.cell (p := ⟨w.heap.size, 3, none⟩) hxlt).trans q3) | fail)
      all_goals go_wp2
      all_goals go_meet
      all_goals exact ⟨rfl, (Below.refl _ W3).drew.trans hby⟩
  case rest =>
    obtain ⟨rfl, hbx⟩ := hcut
    have hxc := HX3.out.below hbx
    have e0 := hxc.c0
    have e1 := hxc.c1
    have e2 := hxc.c2
    have e3 := hxc.c3
    have HBC := Lib.hid hbx
    clear hbx hxc q0 q1 q2 q3 c4 o0
    go_wp2_with (first | (go_at_call 108; (with_reducible refine (CF.out _).mono ?_); rintro e w4 ⟨rfl, hb4⟩) | fail)
    generalize headP Q = F0
    have hzl : min (max z 1) 8 = ((lvl z : Nat) : Int) := by unfold lvl; omega
    rw [hzl]
    clear hzl
    have hlv := lvl_le z
    generalize hL : lvl z = lv at hlv ⊢
    have HLV := Lib.hid hL
    clear hL
    obtain ⟨W5, hW5⟩ : ∃ W5, w4.alloc (.cells #[.string x.k, .int .u64 x.s, .int .i64 x.n, .string x.v, .pointer none, .pointer none, .pointer none, .pointer none, .pointer none, .pointer none, .pointer none, .pointer none] 38) = W5 := ⟨_, rfl⟩
    have hb5 : Below w4.heap.size w4 W5 := by rw [← hW5]; exact (Below.refl _ _).alloc (Nat.le_refl _) _
    have hn5 : W5.heap[w4.heap.size]? = some (.cells #[.string x.k, .int .u64 x.s, .int .i64 x.n, .string x.v, .pointer none, .pointer none, .pointer none, .pointer none, .pointer none, .pointer none, .pointer none, .pointer none] 38) := by rw [← hW5]; exact new_block _ _ rfl
    have hB4 : Below w.heap.size w w4 := HB3.out.trans ((HBC.out.trans (hb4.mono HBC.out.size)).mono HB3.out.size)
    have hB5 : Below w.heap.size w W5 := hB4.trans (hb5.mono hB4.size)
    have ho4 := outs_below (outs_below HO.out HBC.out) hb4
    have hL4 := HH.out.below hB4
    have HS := Lib.hid (show Lst p c (P ++ ⟨w4.heap.size, x, 0⟩ :: Q) W5 ∧ Outs w2.heap.size (fun j => .pointer (some ⟨(m j).a, 0, none⟩)) W5 ∧ TurnT p ns w W5 from by
      refine ⟨Lst.enter ?_ (fun hm => ?_) (node_new hn5), outs_below ho4 hb5, turn_of_below hB5, tail_below hB5 HH.out.hdlt⟩
      · rw [← HC.out.all]
        exact HH.out.below hB5
      · rw [← HC.out.all] at hm
        exact Nat.lt_irrefl _ (hL4.lt _ hm))
    have ho2 := ho4.lt
    have HA0 := Lib.hid (show w.heap.size ≤ w4.heap.size from hB4.size)
    have HO2 := Lib.hid (show w.heap.size ≤ w2.heap.size ∧ w2.heap.size ∉ foot p ns ∧ w2.heap.size < w4.heap.size from ⟨HO2S.out, HO2F.out, ho2⟩)
    rw [hW5]
    clear hW5 hn5 hb5 hB5 hL4 hb4 hB4 ho4 e0 e1 e2 e3 ho2
    generalize w4.heap.size = a at *
    generalize w2.heap.size = bo at *
    go_loopw [45] (fun iv wr => ∃ i : Nat, i ≤ lv ∧ iv = .int .i64 (i : Int) ∧ Lst p c (P ++ ⟨a, x, i⟩ :: Q) wr ∧ Outs bo (fun j => .pointer (some ⟨(m j).a, 0, none⟩)) wr ∧ TurnT p ns w wr) (fun iv _ => lv - (intOf iv).toNat)
    case atStart => exact ⟨0, Nat.zero_le _, rfl, HS.out⟩
    case round =>
      obtain ⟨i, hi, rfl, hl, ho, htu⟩ := hrel
      have HL := Lib.hid hl
      have HOO := Lib.hid ho
      have HTU := Lib.hid htu
      by_cases hlt : i < lv
      · have d1 : decide ((i : Int) < (lv : Int)) = true := by simp; omega
        have hi8 : i < 8 := by omega
        have hi0 : (i : Int) < 8 := by omega
        have oi : wr.cell? ⟨bo, i, none⟩ = some (.pointer (some ⟨(m i).a, 0, none⟩)) := ho.cell hi8
        obtain ⟨cm, hmm, hmlt⟩ := hl.last rfl (HM.out i hi8) hi8
        obtain ⟨o, hfo⟩ := fol_form i Q
        have cm' : wr.cell? ⟨(m i).a, 4 + i, none⟩ = some (.pointer o) := by
          rw [cm, ← hfo]
          exact congrArg some (if_neg (Nat.lt_irrefl i))
        have hna := hl.chain (hd p :: P) ⟨a, x, i⟩ Q (by simp)
        have ca : wr.cell? ⟨a, 4 + i, none⟩ = some (.pointer none) := by
          have := hna.nxt i hi8
          rw [if_neg (Nat.lt_irrefl i)] at this
          exact this
        have fa : wr.frozen? ⟨a, 4 + i, none⟩ = false := hna.warm (4 + i)
        obtain ⟨r', hnm⟩ := hl.node hmm
        have fm : wr.frozen? ⟨(m i).a, 4 + i, none⟩ = false := hnm.warm (4 + i)
        have hne : ¬ a = (m i).a := fun he => by
          have hnd := hl.nodup
          unfold foot at hnd
          rw [← List.cons_append, List.map_append, List.map_cons] at hnd
          have hmL : m i ∈ hd p :: P := by
            obtain ⟨L1, L2, q, -, -⟩ := HM.out i hi8
            rw [q]
            simp
          exact (List.nodup_append.1 hnd).2.2 (m i).a (List.mem_map.2 ⟨_, hmL, rfl⟩) a (by simp) he.symm
        have hne2 : ¬ (m i).a = a := fun he => hne he.symm
        have HFIN := Lib.hid (show ∀ w', w' = (wr.setCell ⟨a, 4 + i, none⟩ (.pointer o)).setCell ⟨(m i).a, 4 + i, none⟩ (.pointer (some ⟨a, 0, none⟩)) → Lst p c (P ++ ⟨a, x, i + 1⟩ :: Q) w' ∧ Outs bo (fun j => .pointer (some ⟨(m j).a, 0, none⟩)) w' ∧ TurnT p ns w w' from fun w' hw' => by
          have hma : (m i).a ∈ foot p ns := by
            obtain ⟨L1, L2, q, -, -⟩ := HM.out i hi8
            refine List.mem_map.2 ⟨m i, ?_, rfl⟩
            rw [HC.out.all, ← List.cons_append, q]
            simp
          subst hw'
          refine ⟨hl.climb hi8 (HM.out i hi8) (fun b j h1 h2 => ?_) ?_ ?_ (fun b j => ?_), ?_, ?_⟩
          · exact (World.cell?_setCell_other _ _ _ _ (fun q => h2 (by cases q; rfl))).trans (World.cell?_setCell_other _ _ _ _ (fun q => h1 (by cases q; rfl)))
          · rw [hfo]
            exact (World.cell?_setCell_other _ _ _ _ (fun q => hne2 (by cases q; rfl))).trans (World.cell?_setCell_same wr _ _ ca)
          · exact World.cell?_setCell_same _ _ _ ((World.cell?_setCell_other _ _ _ _ (fun q => hne (by cases q; rfl))).trans cm')
          · exact (World.frozen?_setCell _ _ _ _).trans (World.frozen?_setCell _ _ _ _)
          · refine (heap_setCell_other _ ⟨(m i).a, 4 + i, none⟩ bo _ ?_).trans ((heap_setCell_other wr ⟨a, 4 + i, none⟩ bo _ ?_).trans ho)
            · exact fun q => HO2.out.2.1 (by rw [show bo = (m i).a from q]; exact hma)
            · exact fun q => by have := HO2.out.2.2; rw [show bo = a from q] at this; omega
          · exact ⟨(htu.1.setCell (.inr HA0.out) _).setCell (.inl hma) _, (htu.2.set (show 4 + i ≤ 12 by omega) _ _).set (show 4 + i ≤ 12 by omega) _ _⟩)
        clear hl ho htu cm hmm hna hnm hfo
        go_upto_block 1 with fail
        go_cut [10] from 47 to 68 (fun _ wx => Lst p c (P ++ ⟨a, x, i + 1⟩ :: Q) wx ∧ Outs bo (fun j => .pointer (some ⟨(m j).a, 0, none⟩)) wx ∧ TurnT p ns w wx)
        case first =>
          go_wp2_with fail
          go_region_with (fail)
          all_goals (go_wp2_with fail; go_meet; exact ⟨(HFIN.out _ rfl).1.drew, (HFIN.out _ rfl).2.1, (HFIN.out _ rfl).2.2.drew⟩)
        case rest =>
          obtain ⟨h1, h2, h3⟩ := hcut
          have HH1 := Lib.hid h1
          have HH2 := Lib.hid h2
          have HH3 := Lib.hid h3
          clear h1 h2 h3
          go_wp2
          go_roundw
          case rel => exact ⟨i + 1, by omega, by go_num, HH1.out, HH2.out, HH3.out⟩
          case measure => simp [intOf]; omega
      · obtain rfl : i = lv := by omega
        have d1 : decide ((i : Int) < (i : Int)) = false := by simp
        have cc := hl.cnt
        have fc : wr.frozen? ⟨p, 12, none⟩ = false := (hl.chain [] (hd p) _ rfl).warm 12
        have HFIN := Lib.hid (hl.counted (c + 1))
        clear hl ho htu
        go_wp2
        go_ret
        refine ⟨rfl, a, HA0.out, ?_, ?_⟩
        · rw [HLV.out]
          exact HFIN.out
        · exact ⟨HTU.out.1.setCell (.inl (by simp [foot, hd])) _, HTU.out.2.set (Nat.le_refl _) _ _⟩
theorem put_yes {p c : Nat} {ns P Q : List Nd} {w : World} (x : Ent) (z : Int) (h : Lst p c ns w) (hr : Right ns) (hc : Cut x.k x.s ns P Q) (hk : x.k.size ≤ maxLen) (hv : x.v.size ≤ maxLen) (hb : validB x.k x.n x.v = true) (ht : there x Q = false) (hcc : c ≤ 1000000) :
    Calls Tryz.prog 101 #[.pointer (some ⟨p, 0, none⟩), ev x.k x.s x.n x.v, .int .i64 z] w fun e w' => e = .returned (.bool true) ∧ ∃ a, w.heap.size ≤ a ∧ Lst p (c + 1) (P ++ ⟨a, x, lvl z⟩ :: Q) w' ∧ Turn (foot p ns) w w' := by
  refine (put_yes_t x z h hr hc hk hv hb ht hcc).mono ?_
  rintro e w' ⟨h1, a, h2, h3, h4⟩
  exact ⟨h1, a, h2, h3, h4.1⟩
end Go.Proofs.YthaalhigmihijabGreat
