/- merge.inOrder: what it yields. -/
import Derived.Test.YtcbailiniigcnaaGreatHMB
import Derived.RangeFuncCalls
import Derived.RangeFuncIn
import Derived.RangeFuncBox
import Derived.RangeFuncLeaves
import Derived.Shelf.Abstract
import Derived.OwnWalkIn
import Derived.TacticsInMore
import Derived.LoopNIn
import Derived.LoopIn
namespace Go.Proofs.YtcbailiniigcnaaGreat
open Go.RowKit Go.Shelf Go.Lib

attribute [local go_sem] Oper.semAt_some

/-- What a caller keeps between two versions: S the blocks that it may write. -/
structure JOk (n₀ : Nat) (J : List Ent → List Nat → World → Prop) : Prop where
  own : ∀ pre S W, J pre S W → ∀ k ∈ S, n₀ ≤ k ∧ k < W.heap.size
  stay : ∀ pre S W W' T, J pre S W → Turn T W W' → (∀ x ∈ T, (n₀ ≤ x ∧ x ∉ S) ∨ W.heap.size ≤ x) → J pre S W'
/-- What a round of the caller's does. -/
def YieldsE (m l : Nat) (J : List Ent → List Nat → World → Prop) : Prop :=
  ∀ pre (x : Ent) S W, J pre S W → x.Fine → (pre ++ [x]).Pairwise ltE → pre.length < 50000 → YieldAt Fence.wide (m - 1) Tryz.prog l #[x.val] W fun e W' => e = .returned (.bool true) ∧ ∃ S', J (pre ++ [x]) S' W' ∧ Turn S W W' ∧ ∀ k ∈ S', k ∈ S ∨ W.heap.size ≤ k
theorem ownsMap_turn {w w' : World} {F : List Nat} {M n : Nat} {D : DataW Unit} (h : w.ownsMap Tryz.prog 105 unitElem M n D) (ht : Turn F w w') (hM : M ∉ F) : w'.ownsMap Tryz.prog 105 unitElem M n D := by
  have hlt := h.lt
  obtain ⟨es, clock, hb, rest⟩ := h
  exact ⟨es, clock, (ht.block M hlt hM).trans hb, rest⟩
theorem round_worlds {w1 w2 w3 w4 : World} {xk xv : ByteArray} {xs xn : Int} (hw2 : w1.alloc (.cells #[.string xk, .int .u64 xs, .int .i64 xn, .string xv] 56) = w2) (hw3 : w2.alloc (.cells #[.string xk, .int .u64 xs] 105) = w3) (hw4 : w3.alloc (.cells #[] 106) = w4) :
    (w2.cell? ⟨w1.heap.size, 0, none⟩ = some (.string xk) ∧ w2.cell? ⟨w1.heap.size, 1, none⟩ = some (.int .u64 xs)) ∧ (w3.cell? ⟨w2.heap.size, 0, none⟩ = some (.string xk) ∧ w3.cell? ⟨w2.heap.size, 1, none⟩ = some (.int .u64 xs)) ∧
    (w4.heap[w1.heap.size]? = some (.cells #[.string xk, .int .u64 xs, .int .i64 xn, .string xv] 56 (0, 0)) ∧ w4.heap[w2.heap.size]? = some (.cells #[.string xk, .int .u64 xs] 105 (0, 0))) ∧ Turn [] w1 w3 ∧ Turn [] w1 w4 ∧ w1.heap.size < w2.heap.size ∧ w2.heap.size < w3.heap.size ∧ w3.heap.size < w4.heap.size := by
  have s2 : w2.heap.size = w1.heap.size + 1 := by rw [← hw2]; simp
  have s3 : w3.heap.size = w2.heap.size + 1 := by rw [← hw3]; simp
  have s4 : w4.heap.size = w3.heap.size + 1 := by rw [← hw4]; simp
  have b12 : Below w1.heap.size w1 w2 := by rw [← hw2]; exact (Below.refl _ _).alloc (Nat.le_refl _) _
  have b23 : Below w2.heap.size w2 w3 := by rw [← hw3]; exact (Below.refl _ _).alloc (Nat.le_refl _) _
  have b34 : Below w3.heap.size w3 w4 := by rw [← hw4]; exact (Below.refl _ _).alloc (Nat.le_refl _) _
  have t12 : Turn [] w1 w2 := turn_of_below b12
  have t23 : Turn [] w2 w3 := turn_of_below b23
  have t34 : Turn [] w3 w4 := turn_of_below b34
  have h1 : w2.heap[w1.heap.size]? = some (.cells #[.string xk, .int .u64 xs, .int .i64 xn, .string xv] 56 (0, 0)) := by rw [← hw2]; exact heap_alloc_new w1 _
  have h2 : w3.heap[w2.heap.size]? = some (.cells #[.string xk, .int .u64 xs] 105 (0, 0)) := by rw [← hw3]; exact heap_alloc_new w2 _
  have c1 : ∀ i u, (#[.string xk, .int .u64 xs, .int .i64 xn, .string xv] : Array Value)[i]? = some u → w2.cell? ⟨w1.heap.size, i, none⟩ = some u := fun i u hu => by simp only [World.cell?, h1]; exact hu
  have c2 : ∀ i u, (#[.string xk, .int .u64 xs] : Array Value)[i]? = some u → w3.cell? ⟨w2.heap.size, i, none⟩ = some u := fun i u hu => by simp only [World.cell?, h2]; exact hu
  exact ⟨⟨c1 0 _ rfl, c1 1 _ rfl⟩, ⟨c2 0 _ rfl, c2 1 _ rfl⟩, ⟨((b34.block _ (by omega)).trans (b23.block _ (by omega))).trans h1, (b34.block _ (by omega)).trans h2⟩, t12.trans t23 (by simp), (t12.trans t23 (by simp)).trans t34 (by simp), by omega, by omega, by omega⟩
theorem round_cells {w4 w5 : World} {b M : Nat} {xk xv : ByteArray} {xs xn : Int} (h : w4.heap[b]? = some (.cells #[.string xk, .int .u64 xs, .int .i64 xn, .string xv] 56 (0, 0))) (ht : Turn [M] w4 w5) (hM : M ≠ b) :
    w5.cell? ⟨b, 0, none⟩ = some (.string xk) ∧ w5.cell? ⟨b, 1, none⟩ = some (.int .u64 xs) ∧ w5.cell? ⟨b, 2, none⟩ = some (.int .i64 xn) ∧ w5.cell? ⟨b, 3, none⟩ = some (.string xv) := by
  have h5 := (ht.block b (Array.getElem?_eq_some_iff.1 h).1 (by simp; exact fun e => hM e.symm)).trans h
  have c1 : ∀ i u, (#[.string xk, .int .u64 xs, .int .i64 xn, .string xv] : Array Value)[i]? = some u → w5.cell? ⟨b, i, none⟩ = some u := fun i u hu => by simp only [World.cell?, h5]; exact hu
  exact ⟨c1 0 _ rfl, c1 1 _ rfl, c1 2 _ rfl, c1 3 _ rfl⟩
theorem mark_cells {w4 : World} {b : Nat} {xk : ByteArray} {xs : Int} (h : w4.heap[b]? = some (.cells #[.string xk, .int .u64 xs] 105 (0, 0))) : w4.cell? ⟨b, 0, none⟩ = some (.string xk) ∧ w4.cell? ⟨b, 1, none⟩ = some (.int .u64 xs) := by
  have c1 : ∀ i u, (#[.string xk, .int .u64 xs] : Array Value)[i]? = some u → w4.cell? ⟨b, i, none⟩ = some u := fun i u hu => by simp only [World.cell?, h]; exact hu
  exact ⟨c1 0 _ rfl, c1 1 _ rfl⟩
theorem len_sumH : ∀ {H : List Hd}, (∀ h ∈ H, h.l ≠ []) → H.length ≤ sumH H
  | [], _ => Nat.zero_le _
  | x :: H, h => by
    have h1 := len_sumH (H := H) (fun y hy => h y (List.mem_cons_of_mem _ hy))
    have h2 : 0 < x.l.length := List.length_pos_iff.2 (h x (by simp))
    have h3 : sumH (x :: H) = x.l.length + sumH H := by unfold sumH; simp
    rw [h3, List.length_cons]
    omega
/-- Between two rounds. -/
structure Drw (n₀ M p : Nat) (ls : List (List Ent)) (J : List Ent → List Nat → World → Prop) (w : World) (v : Value) (H : List Hd) (O : List Ent) (S : List Nat) (D : DataW Unit) : Prop where
  hp : HpI n₀ w p v H
  far : ∀ x ∈ hblk p v, M < x
  dr : DrI ls H O
  map : w.ownsMap Tryz.prog 105 unitElem M O.length D
  tells : TellsM D O
  j : J O S w
  apart : M ∉ S ∧ ∀ x ∈ hblk p v, x ∉ S
  room : O.length + sumH H ≤ 50000
  base : n₀ ≤ M
theorem hblk_same {p : Nat} {v v' : Value} (h : ob v' = ob v) : hblk p v' = hblk p v := by unfold hblk; rw [h]
/-- Behind a version taken. -/
theorem Drw.took {n₀ M p : Nat} {ls : List (List Ent)} {J : List Ent → List Nat → World → Prop} {w w1 w4 : World} {v v1 : Value} {H H1 : List Hd} {O : List Ent} {S : List Nat} {D : DataW Unit} (hJ : JOk n₀ J) (h : Drw n₀ M p ls J w v H O S D) (hp : HpI n₀ w1 p v1 H1) (htk : Took H H1) (ht : Turn (hblk p v) w w1) (ho : ob v1 = ob v) (t14 : Turn [] w1 w4) :
    HpI n₀ w4 p v1 H1 ∧ (∀ x ∈ hblk p v1, M < x) ∧ w4.ownsMap Tryz.prog 105 unitElem M O.length D ∧ J O S w4 ∧ (M ∉ S ∧ ∀ x ∈ hblk p v1, x ∉ S) ∧ sumH H1 + 1 = sumH H ∧ M < w4.heap.size := by
  have hM : M ∉ hblk p v := fun e => by have := h.far _ e; omega
  refine ⟨hp.turn t14 (by simp), by rw [hblk_same ho]; exact h.far, ownsMap_turn (ownsMap_turn h.map ht hM) t14 (by simp), hJ.stay _ _ _ _ _ h.j (ht.trans t14 (by simp)) (fun x hx => .inl ⟨h.hp.far x hx, h.apart.2 x hx⟩), by rw [hblk_same ho]; exact h.apart, htk.sum h.dr.ne, ?_⟩
  have := h.map.lt
  have := ht.size
  have := t14.size
  omega
/-- Behind a version told. -/
theorem Drw.told {n₀ M p : Nat} {ls : List (List Ent)} {J : List Ent → List Nat → World → Prop} {w w4 w5 w6 : World} {v v1 : Value} {H H1 : List Hd} {O : List Ent} {S S' : List Nat} {D D' : DataW Unit} {x : Ent} (h : Drw n₀ M p ls J w v H O S D) (hJ : JOk n₀ J)
    (hQ : HpI n₀ w4 p v1 H1 ∧ (∀ x ∈ hblk p v1, M < x) ∧ w4.ownsMap Tryz.prog 105 unitElem M O.length D ∧ J O S w4 ∧ (M ∉ S ∧ ∀ x ∈ hblk p v1, x ∉ S) ∧ sumH H1 + 1 = sumH H ∧ M < w4.heap.size)
    (hM : w5.ownsMap Tryz.prog 105 unitElem M (O.length + 1) D') (t45 : Turn [M] w4 w5) (hj : J (O ++ [x]) S' w6) (t56 : Turn S w5 w6) (hS' : ∀ k ∈ S', k ∈ S ∨ w5.heap.size ≤ k) (hd : DrI ls H1 (O ++ [x])) (ht : TellsM D' (O ++ [x])) (hr : O.length + sumH H ≤ 50000) :
    Drw n₀ M p ls J w6 v1 H1 (O ++ [x]) S' D' ∧ sumH H1 < sumH H := by
  obtain ⟨q1, q2, q3, q4, ⟨q5, q6⟩, q7, q8⟩ := hQ
  have s45 := t45.size
  refine ⟨⟨(q1.turn t45 (fun y hy => ?_)).turn t56 (fun y hy => ⟨fun e => q6 y e hy, (hJ.own _ _ _ h.j y hy).1⟩), q2, hd, ?_, ht, hj, ⟨fun e => ?_, fun y hy e => ?_⟩, by rw [List.length_append]; simp; omega, h.base⟩, by omega⟩
  · simp at hy
    subst hy
    exact ⟨fun e => by have := q2 _ e; omega, h.base⟩
  · rw [List.length_append]
    exact ownsMap_turn hM t56 q5
  · rcases hS' _ e with e | e
    · exact q5 e
    · omega
  · rcases hS' _ e with e | e
    · exact q6 y hy e
    · have : y < w4.heap.size := by
        rcases mem_hblk.1 hy with rfl | hy
        · exact q1.at_.lt
        · exact q1.at_.2.lt y hy
      omega
set_option maxRecDepth 100000 in
set_option maxHeartbeats 8000000 in
theorem ord_run (n₀ m l Bs : Nat) (a : Option Addr) (n cap : Nat) (ls : List (List Ent)) (J : List Ent → List Nat → World → Prop) (hJ : JOk n₀ J) (hY : YieldsE m l J) (W : World) (S0 : List Nat)
    (hBs : W.cell? ⟨Bs, 0, none⟩ = some (.slice a n cap)) (hn₀ : n₀ ≤ W.heap.size) (hL : LsIn n₀ W a n ls) (hn : n ≤ 8) (hl : ls.flatten.length ≤ 50000) (hs : SortedL ls) (h0 : J [] S0 W) :
    CallsIn Fence.wide m Tryz.prog 84 #[.func (.yield l) #[] #[], .pointer (some ⟨Bs, 0, none⟩)] W fun e W' => (∃ v, e = .returned v) ∧ ∃ S', J (allE ls.flatten) S' W' := by
  have hmm := @run_makeMap Tryz.prog
  obtain ⟨W1, hW1⟩ : ∃ W', W.alloc (.map #[] 0) = W' := ⟨_, rfl⟩
  have hlt := lt_of_cell hBs
  have hc1 : W1.cell? ⟨Bs, 0, none⟩ = some (.slice a n cap) := by rw [← hW1]; exact oce hlt hBs
  have hb1 : Below W.heap.size W W1 := by rw [← hW1]; exact (Below.refl _ _).alloc (Nat.le_refl _) _
  have CW := Lib.hid (waiting_any n₀ a n cap ls W1 (Nat.le_trans hn₀ hb1.size) (hL.below (hb1.mono hn₀)) hn)
  have HJ := Lib.hid hJ
  have HY := Lib.hid hY
  have hs1 : W1.heap.size = W.heap.size + 1 := by rw [← hW1]; simp
  have hM := (World.ownsMap_made (H := Unit) W Tryz.prog 105 unitElem)
  rw [hW1] at hM
  refine callsIn_of_wp Tryz.func84 rfl trivial ?_ rfl
  simp only [Tryz.ntmps84, List.size_toArray, List.length_cons, List.length_nil, Nat.reduceAdd, Nat.reduceSub, Array.replicate_succ, Array.replicate_zero, List.push_toArray, List.append_toArray, List.nil_append, List.cons_append]
  gi_wp2_with (refine ⟨trivial, fun h => (by cases h), ?_⟩; gi_at_call 85; refine (callsIn_wide.2 CW.out).mono ?_; rintro e w1 ⟨p, v, H, rfl, hp1, hwa, hsum, hfar, hbw⟩; clear CW)
  have hD0 : Drw n₀ W.heap.size p ls J w1 v H [] S0 (.map []) := by
    have hS := hJ.own _ _ _ h0
    have t1 : Turn [] W w1 := (turn_of_below hb1).trans (turn_of_below (F := []) hbw) (by simp)
    refine ⟨hp1, fun x hx => by have := hfar x hx; omega, hwa.start, ownsMap_turn hM (turn_of_below (F := []) hbw) (by simp), tellsM_nil, hJ.stay _ _ _ _ _ h0 t1 (by simp), ⟨fun e => ?_, fun x hx e => ?_⟩, by simp; omega, hn₀⟩
    · have := (hS _ e).2; omega
    · have := (hS _ e).2; have := hfar x hx; omega
  have HD0 := Lib.hid hD0
  have HS := Lib.hid hs
  clear hD0 hJ hY hBs hL h0 hc1 hb1 hs1 hM hp1 hwa hsum hfar hbw hs hn hl hlt hn₀
  gi_loopw [12] (fun _ wr => ∃ v H O S D, Hid (Drw n₀ W.heap.size p ls J wr v H O S D)) (fun _ wr => heapSum wr p)
  case atStart => exact ⟨v, H, [], S0, _, HD0⟩
  case round =>
    obtain ⟨v, H, O, S, D, HD⟩ := hrel
    obtain ⟨va, vc, hv, -, -⟩ := HD.out.hp.at_.2.le
    have hcell := HD.out.hp.at_.cell
    rw [hv] at hcell
    cases H with
    | nil =>
      have CL := Lib.hid (hlen_any va 0 vc wr)
      simp only [List.length_nil] at hcell
      gi_wp2_with (refine ⟨trivial, fun h => (by cases h), ?_⟩; gi_at_call 86; refine (callsIn_wide.2 CL.out).mono ?_; rintro e w2 ⟨rfl, rfl⟩)
      go_end0
      exact ⟨⟨_, rfl⟩, S, by rw [← HD.out.dr.told]; exact HD.out.j⟩
    | cons h0 T =>
      obtain ⟨k, hk⟩ : ∃ k, (h0 :: T).length = k := ⟨_, rfl⟩
      have hkp : 0 < k := by rw [← hk]; simp
      have u1 : (0 : Int) < (k : Int) := by omega
      have u2 : decide ((0 : Int) < (k : Int)) = true := by simp; omega
      rw [hk] at hcell
      have hne := HD.out.dr.ne
      have hsl := len_sumH hne
      have hroom := HD.out.room
      have CL := Lib.hid (hlen_any va k vc wr)
      have CT := Lib.hid (take_any n₀ p v h0 T wr HD.out.hp HD.out.dr.heap (by simp at hsl; omega))
      obtain ⟨hok, -⟩ := HD.out.dr.top_ok HS.out
      have HNE := Lib.hid hne
      have HSK := Lib.hid (show ∀ H', Took (h0 :: T) H' → (∃ e ∈ O, SameE e h0.e) → DrI ls H' O from fun H' h1 h2 => HD.out.dr.skip h1 h2)
      have HTE := Lib.hid (show ∀ H', Took (h0 :: T) H' → (¬ ∃ e ∈ O, SameE e h0.e) → DrI ls H' (O ++ [h0.e]) from fun H' h1 h2 => (HD.out.dr.tell HS.out h2).skip h1 ⟨h0.e, by simp, ⟨rfl, rfl⟩⟩)
      obtain ⟨kl, hkl⟩ := key_mark h0.e.k h0.e.s hok.1.1 hok.1.2.1 (by have := hok.1.2.2.1; omega)
      have HTM := Lib.hid (HD.out.tells.2 h0.e kl hkl)
      have HPU := Lib.hid (HD.out.tells.put h0.e hkl (.agg []))
      have HRM := Lib.hid (show O.length + sumH (h0 :: T) ≤ 50000 ∧ O.length < 50000 from ⟨hroom, by simp at hsl; omega⟩)
      have hb0 := HD.out.base
      generalize h0.e = X at *
      obtain ⟨xk, xs, xn, xv⟩ := X
      unfold ev at CT
      unfold markV at hkl
      simp only at CT hkl
      clear hsl hroom hne hv hk
      have HMH := Lib.hid (show W.heap.size ∉ hblk p v from fun e => by have := HD.out.far _ e; omega)
      cases hb : Maps.has D kl with
      | true =>
        have HYES := Lib.hid (HTM.out.1 hb)
        gi_wp2_with (first
          | (refine ⟨trivial, fun h => (by cases h), ?_⟩; gi_at_call 86; refine (callsIn_wide.2 CL.out).mono ?_; rintro e w2 ⟨rfl, rfl⟩)
          | (refine ⟨trivial, fun h => (by cases h), ?_⟩; gi_at_call 87; refine (callsIn_wide.2 CT.out).mono ?_; rintro e w1 ⟨rfl, v1, H1, hp1, htk, ht1, ho1⟩; obtain ⟨w2, hw2⟩ : ∃ W', w1.alloc (.cells #[.string xk, .int .u64 xs, .int .i64 xn, .string xv] 56) = W' := ⟨_, rfl⟩; obtain ⟨w3, hw3⟩ : ∃ W', w2.alloc (.cells #[.string xk, .int .u64 xs] 105) = W' := ⟨_, rfl⟩; obtain ⟨w4, hw4⟩ : ∃ W', w3.alloc (.cells #[] 106) = W' := ⟨_, rfl⟩; have HW := Lib.hid (round_worlds hw2 hw3 hw4); obtain ⟨e0, e1⟩ := HW.out.1; obtain ⟨m0, m1⟩ := HW.out.2.1; have HP1 := Lib.hid hp1; have HTK := Lib.hid htk; have HT1 := Lib.hid ht1; have HO1 := Lib.hid ho1; have hown3 := ownsMap_turn (ownsMap_turn HD.out.map ht1 HMH.out) HW.out.2.2.2.1 (by simp); clear hp1 htk ht1 ho1)
          | (gi_at_lookup; refine wpListIn_lookup_own_unit _ rfl _ _ 99 rfl 105 106 lawMark Tryz.underlying99 (zeroUnit _) W.heap.size O.length D rfl hown3 _ _ rfl hkl ?_)
          | fail)
        have HQ := HD.out.took HJ.out HP1.out HTK.out HT1.out HO1.out HW.out.2.2.2.2.1
        refine ⟨⟨v1, H1, O, S, D, Lib.hid ⟨HQ.1, HQ.2.1, HSK.out H1 HTK.out HYES.out, HQ.2.2.1, HD.out.tells, HQ.2.2.2.1, HQ.2.2.2.2.1, by have := HQ.2.2.2.2.2.1; have := HRM.out.1; omega, HD.out.base⟩⟩, ?_⟩
        rw [heapSum_eq HQ.1.at_, heapSum_eq HD.out.hp.at_]
        have := HQ.2.2.2.2.2.1
        omega
      | false =>
        have HNO := Lib.hid (show ¬ ∃ e ∈ O, SameE e ⟨xk, xs, xn, xv⟩ from fun e => by have := HTM.out.2 e; rw [hb] at this; cases this)
        gi_wp2_with (first
          | (refine ⟨trivial, fun h => (by cases h), ?_⟩; gi_at_call 86; refine (callsIn_wide.2 CL.out).mono ?_; rintro e w2 ⟨rfl, rfl⟩)
          | (refine ⟨trivial, fun h => (by cases h), ?_⟩; gi_at_call 87; refine (callsIn_wide.2 CT.out).mono ?_; rintro e w1 ⟨rfl, v1, H1, hp1, htk, ht1, ho1⟩; obtain ⟨w2, hw2⟩ : ∃ W', w1.alloc (.cells #[.string xk, .int .u64 xs, .int .i64 xn, .string xv] 56) = W' := ⟨_, rfl⟩; obtain ⟨w3, hw3⟩ : ∃ W', w2.alloc (.cells #[.string xk, .int .u64 xs] 105) = W' := ⟨_, rfl⟩; obtain ⟨w4, hw4⟩ : ∃ W', w3.alloc (.cells #[] 106) = W' := ⟨_, rfl⟩; have HW := Lib.hid (round_worlds hw2 hw3 hw4); obtain ⟨e0, e1⟩ := HW.out.1; obtain ⟨m0, m1⟩ := HW.out.2.1; have HP1 := Lib.hid hp1; have HTK := Lib.hid htk; have HT1 := Lib.hid ht1; have HO1 := Lib.hid ho1; have HNM := mark_cells HW.out.2.2.1.2; obtain ⟨q0, q1⟩ := HNM; have HMX := Lib.hid (show W.heap.size ≠ w1.heap.size from fun e => by have := HD.out.map.lt; have := HT1.out.size; omega); have hown3 := ownsMap_turn (ownsMap_turn HD.out.map ht1 HMH.out) HW.out.2.2.2.1 (by simp); clear hp1 htk ht1 ho1)
          | (gi_at_lookup; refine wpListIn_lookup_own_unit _ rfl _ _ 99 rfl 105 106 lawMark Tryz.underlying99 (zeroUnit _) W.heap.size O.length D rfl hown3 _ _ rfl hkl ?_)
          | (gi_at_mapUpdate; refine wpListIn_mapUpdate_own _ rfl _ _ _ 99 rfl 105 106 lawMark Tryz.underlying99 unitElem W.heap.size O.length D rfl (ownsMap_turn (ownsMap_turn HD.out.map HT1.out HMH.out) HW.out.2.2.2.2.1 (by simp)) (by have := HRM.out.2; unfold maxLen; omega) _ _ _ rfl rfl hkl (.agg []) [] unitElem_mk ?_; intro w5 hown5 hgrow5; have HQ := Lib.hid (HD.out.took HJ.out HP1.out HTK.out HT1.out HO1.out HW.out.2.2.2.2.1); have t45 : Turn [W.heap.size] w4 w5 := turn_of_grown hgrow5 (fun k hk => by cases hk; exact .inl (by simp)); have HJ5 := Lib.hid (HJ.out.stay _ _ _ _ _ HQ.out.2.2.2.1 t45 (fun x hx => by simp at hx; subst hx; exact .inl ⟨hb0, HD.out.apart.1⟩)); have HOW5 := Lib.hid hown5; obtain ⟨y0, y1, y2, y3⟩ := round_cells HW.out.2.2.1.1 t45 HMX.out; have HT45 := Lib.hid t45; have hyy := HY.out O ⟨xk, xs, xn, xv⟩ S w5 HJ5.out hok (HTE.out H1 HTK.out HNO.out).sorted HRM.out.2; obtain ⟨fn, tmps, assign, body, hy, hR⟩ := hyy; simp only [Ent.val, ev] at hy; clear hown5 hgrow5 t45)
          | fail)
        refine ⟨fun h => (by cases h), hR.mono ?_⟩
        rintro e w6 ⟨rfl, S', hj6, ht6, hS'⟩
        have HN6 := Lib.hid (Drw.told (x := ⟨xk, xs, xn, xv⟩) HD.out HJ.out HQ.out HOW5.out HT45.out hj6 ht6 hS' (HTE.out H1 HTK.out HNO.out) HPU.out HRM.out.1)
        clear hj6 ht6 hS' hR hy
        gi_wp2
        refine ⟨⟨v1, H1, _, S', _, Lib.hid HN6.out.1⟩, ?_⟩
        rw [heapSum_eq HN6.out.1.hp.at_, heapSum_eq HD.out.hp.at_]
        exact HN6.out.2
end Go.Proofs.YtcbailiniigcnaaGreat
