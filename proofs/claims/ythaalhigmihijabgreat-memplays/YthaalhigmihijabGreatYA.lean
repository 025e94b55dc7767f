/- A skip list of a call's own, as the statements use it; of a nil list; alive. -/
import Derived.Test.YthaalhigmihijabGreatY9
namespace Go.Proofs.YthaalhigmihijabGreat
open Go.RowKit

/-- At p lies a list of the nodes ns, all of it from block B on. -/
structure Skp (B p : Nat) (ns : List Nd) (w : World) : Prop where
  lst : Lst p ns.length ns w
  right : Right ns
  base : ∀ k ∈ foot p ns, B ≤ k
section
variable {B p : Nat} {ns : List Nd} {w w' : World}
theorem Skp.below (h : Skp B p ns w) (hb : Below w.heap.size w w') : Skp B p ns w' := ⟨h.lst.below hb, h.right, h.base⟩
theorem Skp.drew (h : Skp B p ns w) : Skp B p ns w.drew := ⟨h.lst.drew, h.right, h.base⟩
theorem Skp.turned {F : List Nat} (h : Skp B p ns w) (ht : Turn F w w') (hF : ∀ k ∈ foot p ns, k ∉ F) : Skp B p ns w' := ⟨h.lst.turned ht hF, h.right, h.base⟩
theorem Skp.size (h : Skp B p ns w) : B ≤ w.heap.size := by
  have h1 := h.base p (by simp [foot, hd])
  have h2 := h.lst.hdlt
  omega
end
def same2 (x y : Ent) : Prop := x.k = y.k ∧ x.s = y.s
/-- What Put does. -/
def Puts (W : World) (x : Ent) (l : Nat) (ns : List Nd) (t : Bool) (ns' : List Nd) : Prop :=
  (t = false ∧ ns' = ns ∧ (validB x.k x.n x.v = false ∨ ∃ y ∈ ns, same2 y.e x)) ∨
  (t = true ∧ validB x.k x.n x.v = true ∧ (∀ y ∈ ns, ¬ same2 y.e x) ∧ ∃ P Q a, Cut x.k x.s ns P Q ∧ ns' = P ++ ⟨a, x, l⟩ :: Q ∧ W.heap.size ≤ a)
theorem there_iff {x : Ent} {ns P Q : List Nd} (ho : ns.Pairwise ltN) (hc : Cut x.k x.s ns P Q) : there x Q = true ↔ ∃ y ∈ ns, same2 y.e x := by
  constructor
  · intro h
    cases Q with
    | nil => cases h
    | cons y r =>
      have : cmpE y.e.k y.e.s x.k x.s = 0 := by simpa [there] using h
      exact ⟨y, by rw [hc.all]; simp, (cmpE_eq _ _ _ _).1 this⟩
  · rintro ⟨y, hy, hs⟩
    have h0 : cmpE y.e.k y.e.s x.k x.s = 0 := (cmpE_eq _ _ _ _).2 hs
    rw [hc.all] at hy ho
    rcases List.mem_append.1 hy with hp | hq
    · have := hc.ahead y hp
      omega
    · cases Q with
      | nil => cases hq
      | cons q r =>
        rcases List.mem_cons.1 hq with rfl | hq
        · simp [there, h0]
        · have h1 : ltN q y := (List.pairwise_cons.1 (List.pairwise_append.1 ho).2.1).1 y hq
          have h2 : cmpE q.e.k q.e.s x.k x.s = -1 := by
            unfold ltN at h1
            rw [hs.1, hs.2] at h1
            exact h1
          exact absurd h2 (hc.behind q (by simp))
theorem right_put {x : Ent} {ns P Q : List Nd} {a l : Nat} (h : Right ns) (hc : Cut x.k x.s ns P Q) (hn : ∀ y ∈ ns, ¬ same2 y.e x) (hl : 1 ≤ l) (hf : x.Fit) : Right (P ++ ⟨a, x, l⟩ :: Q) := by
  have ho := h.ord
  rw [hc.all] at ho
  obtain ⟨o1, o2, o3⟩ := List.pairwise_append.1 ho
  have mem : ∀ n, n ∈ P ++ ⟨a, x, l⟩ :: Q → n = ⟨a, x, l⟩ ∨ n ∈ ns := by
    intro n hn
    rw [hc.all]
    simp only [List.mem_append, List.mem_cons] at hn ⊢
    rcases hn with hn | hn | hn
    · exact .inr (.inl hn)
    · exact .inl hn
    · exact .inr (.inr hn)
  refine ⟨fun n hm => ?_, ?_, fun n hm => ?_⟩
  · rcases mem n hm with rfl | hm
    · exact hl
    · exact h.lev n hm
  · rw [List.pairwise_append]
    refine ⟨o1, List.pairwise_cons.2 ⟨fun y hy => ?_, o2⟩, fun y hy z hz => ?_⟩
    · have h1 := hc.behind y hy
      have h2 := hn y (by rw [hc.all]; simp [hy])
      have h3 : cmpE y.e.k y.e.s x.k x.s ≠ 0 := fun e => h2 ((cmpE_eq _ _ _ _).1 e)
      have h4 := cmpE_vals y.e.k y.e.s x.k x.s
      have h5 := cmpE_swap y.e.k y.e.s x.k x.s
      unfold ltN
      show cmpE x.k x.s y.e.k y.e.s = -1
      omega
    · rcases List.mem_cons.1 hz with rfl | hz
      · exact hc.ahead y hy
      · exact o3 y hy z hz
  · rcases mem n hm with rfl | hm
    · exact hf
    · exact h.fit n hm
theorem foot_put {p a l : Nat} {x : Ent} {ns P Q : List Nd} (he : ns = P ++ Q) : ∀ k ∈ foot p (P ++ ⟨a, x, l⟩ :: Q), k = a ∨ k ∈ foot p ns := by
  intro k hk
  rw [he]
  simp only [foot, List.map_cons, List.map_append, List.mem_cons, List.mem_append] at hk ⊢
  rcases hk with hk | hk | hk | hk
  · exact .inr (.inl hk)
  · exact .inr (.inr (.inl hk))
  · exact .inl hk
  · exact .inr (.inr (.inr hk))
/-- What a version that comes in has. -/
def Ent.Nice (x : Ent) : Prop := x.k.size ≤ maxLen ∧ x.v.size ≤ maxLen ∧ 0 ≤ x.s ∧ x.s ≤ 18446744073709551615
theorem put_step_t {B p : Nat} {ns : List Nd} {w : World} (h : Skp B p ns w) (x : Ent) (hx : x.Nice) (z : Int) (hl : ns.length ≤ 1000000) :
    Calls Tryz.prog 101 #[.pointer (some ⟨p, 0, none⟩), ev x.k x.s x.n x.v, .int .i64 z] w fun e w' => ∃ t ns', e = .returned (.bool t) ∧ Puts w x (lvl z) ns t ns' ∧ Skp B p ns' w' ∧ TurnT p ns w w' := by
  obtain ⟨k1, k2, k3, k4⟩ := hx
  cases hv : validB x.k x.n x.v with
  | false =>
    refine (put_bad x z k1 k2 hv).mono ?_
    rintro e w' ⟨rfl, hb⟩
    exact ⟨false, ns, rfl, .inl ⟨rfl, rfl, .inl hv⟩, h.below hb, turn_of_below hb, tail_below hb h.lst.hdlt⟩
  | true =>
    obtain ⟨P, Q, hc⟩ := cut_of x.k x.s ns h.right.ord
    cases ht : there x Q with
    | true =>
      refine (put_twice x z h.lst h.right hc k1 k2 hv ht).mono ?_
      rintro e w' ⟨rfl, hb⟩
      exact ⟨false, ns, rfl, .inl ⟨rfl, rfl, .inr ((there_iff h.right.ord hc).1 ht)⟩, h.below hb, turn_of_below hb, tail_below hb h.lst.hdlt⟩
    | false =>
      refine (put_yes_t x z h.lst h.right hc k1 k2 hv ht hl).mono ?_
      rintro e w' ⟨rfl, a, ha, hL, hT⟩
      have hn : ∀ y ∈ ns, ¬ same2 y.e x := fun y hy hs => by
        rw [(there_iff h.right.ord hc).2 ⟨y, hy, hs⟩] at ht
        cases ht
      have hfit : x.Fit := by
        have : x.k.size ≤ 300 ∧ x.v.size ≤ 60000 := by
          unfold validB at hv
          simp at hv
          omega
        exact ⟨this.1, this.2, k3, k4⟩
      have hlen : (P ++ ⟨a, x, lvl z⟩ :: Q).length = ns.length + 1 := by rw [hc.all]; simp; omega
      have hsz := h.size
      refine ⟨true, _, rfl, .inr ⟨rfl, hv, hn, P, Q, a, hc, rfl, ha⟩, ⟨?_, right_put h.right hc hn (lvl_le z).1 hfit, fun k hk => ?_⟩, hT⟩
      · rw [hlen]
        exact hL
      · rcases foot_put hc.all k hk with rfl | hk
        · omega
        · exact h.base k hk
theorem put_step {B p : Nat} {ns : List Nd} {w : World} (h : Skp B p ns w) (x : Ent) (hx : x.Nice) (z : Int) (hl : ns.length ≤ 1000000) :
    Calls Tryz.prog 101 #[.pointer (some ⟨p, 0, none⟩), ev x.k x.s x.n x.v, .int .i64 z] w fun e w' => ∃ t ns', e = .returned (.bool t) ∧ Puts w x (lvl z) ns t ns' ∧ Skp B p ns' w' ∧ Turn (foot p ns) w w' := by
  refine (put_step_t h x hx z hl).mono ?_
  rintro e w' ⟨t, ns', h1, h2, h3, h4⟩
  exact ⟨t, ns', h1, h2, h3, h4.1⟩
end Go.Proofs.YthaalhigmihijabGreat
