/- Two lists of the same versions; SameEntries; a digit. -/
import Derived.Test.YthaalhigmihijabGreatYC
namespace Go.Proofs.YthaalhigmihijabGreat
open Go.RowKit

theorem drewN_add7 (w : World) (m n : Nat) : (w.drewN m).drewN n = w.drewN (m + n) := by
  simp [World.drewN, Nat.add_assoc]
set_option maxHeartbeats 1000000 in
set_option maxRecDepth 100000 in
theorem same_some (g off0 cap0 b off cap : Nat) (zs : List Ent) (w : World) (hl : zs.length ≤ 1000000) (h0 : ∀ i (h : i < zs.length) j u, zs[i].cells[j]? = some u → w.cell? ⟨g, off0 + i * 4 + j, none⟩ = some u) (h1 : ∀ i (h : i < zs.length) j u, zs[i].cells[j]? = some u → w.cell? ⟨b, off + i * 4 + j, none⟩ = some u) :
    Calls Tryz.prog 16 #[.slice (some ⟨g, off0, none⟩) zs.length cap0, .slice (some ⟨b, off, none⟩) zs.length cap] w fun e w' => e = .returned (.bool true) ∧ Below w.heap.size w w' := by
  have H0 := Lib.hid h0
  have H1 := Lib.hid h1
  clear h0 h1
  go_enter Tryz.func16, Tryz.ntmps16
  go_wp2
  go_loopw [5] (fun i wr => ∃ k : Nat, k ≤ zs.length ∧ i = .int .i64 k ∧ Below w.heap.size w wr) (fun i _ => zs.length - (intOf i).toNat)
  case atStart => exact ⟨0, Nat.zero_le _, rfl, Below.refl _ _⟩
  case round =>
    obtain ⟨k, hk, rfl, hb⟩ := hrel
    have HB := Lib.hid hb
    clear hb
    by_cases hlt : k < zs.length
    · have lift : ∀ (q j : Nat) (u : Value), w.cell? ⟨q, j, none⟩ = some u → wr.cell? ⟨q, j, none⟩ = some u := fun q j u hu => (HB.out.cell (p := ⟨q, j, none⟩) (lt_of_cell hu)).trans hu
      have hx0 := lift _ _ _ (H0.out k hlt 0 _ rfl)
      have hy0 := lift _ _ _ (H1.out k hlt 0 _ rfl)
      have hx1 := lift _ _ _ (H0.out k hlt 1 _ rfl)
      have hy1 := lift _ _ _ (H1.out k hlt 1 _ rfl)
      have hx2 := lift _ _ _ (H0.out k hlt 2 _ rfl)
      have hy2 := lift _ _ _ (H1.out k hlt 2 _ rfl)
      have hx3 := lift _ _ _ (H0.out k hlt 3 _ rfl)
      have hy3 := lift _ _ _ (H1.out k hlt 3 _ rfl)
      clear lift
      generalize zs[k] = z at hx0 hy0 hx1 hy1 hx2 hy2 hx3 hy3
      obtain ⟨f0, f1, f2, f3⟩ := z
      simp only [Nat.add_zero] at hx0 hy0 hx1 hy1 hx2 hy2 hx3 hy3
      have hk0 : (k : Int) < (zs.length : Int) := by omega
      go_wp2
      go_quiet (fail)
      go_wp2
      go_roundw
      case rel => exact ⟨k + 1, by omega, by go_num, belowN HB.out _⟩
      case measure => simp [intOf]; omega
    · go_wp2
      go_ret
      exact ⟨rfl, HB.out⟩
set_option maxHeartbeats 1000000 in
theorem same_none (a0 a1 : Option Addr) (cap0 cap : Nat) (w : World) :
    Calls Tryz.prog 16 #[.slice a0 0 cap0, .slice a1 0 cap] w fun e w' => e = .returned (.bool true) ∧ Below w.heap.size w w' := by
  go_enter Tryz.func16, Tryz.ntmps16
  go_wp2
  refine wp_loop_rounds 1 ?_
  rw [rounds_succ]
  go_wp2
  go_ret
  exact ⟨rfl, Below.refl _ _⟩
theorem same_ents {n1 n2 : Nat} (a1 a2 : Option Addr) (c1 c2 : Nat) (es : List Ent) (w : World) (h1 : EntsAt n1 w a1 es.length es) (h2 : EntsAt n2 w a2 es.length es) (hl : es.length ≤ 1000000) :
    Calls Tryz.prog 16 #[.slice a1 es.length c1, .slice a2 es.length c2] w fun e w' => e = .returned (.bool true) ∧ Below w.heap.size w w' := by
  rcases h1.2 with h0 | ⟨b, off, rfl, -, hc⟩
  · rw [h0]
    exact same_none _ _ _ _ _
  · rcases h2.2 with h0 | ⟨b', off', rfl, -, hc'⟩
    · rw [h0]
      exact same_none _ _ _ _ _
    · exact same_some b off c1 b' off' c2 es w hl hc hc'
def ltE (x y : Ent) : Prop := cmpE x.k x.s y.k y.s = -1
theorem ltE_irr (x : Ent) : ¬ ltE x x := by
  unfold ltE
  rw [cmpE_refl]
  decide
theorem ltE_asym {x y : Ent} (h : ltE x y) : ¬ ltE y x := by
  unfold ltE at *
  rw [cmpE_swap, h]
  decide
theorem ents_ord {ns : List Nd} (h : ns.Pairwise ltN) : (entsOf ns).Pairwise ltE := by
  unfold entsOf
  rw [List.pairwise_map]
  exact h
theorem sorted_ext : ∀ xs ys : List Ent, xs.Pairwise ltE → ys.Pairwise ltE → (∀ e, e ∈ xs ↔ e ∈ ys) → xs = ys
  | [], [], _, _, _ => rfl
  | [], y :: ys, _, _, h => by
    have := (h y).2 (by simp)
    cases this
  | x :: xs, [], _, _, h => by
    have := (h x).1 (by simp)
    cases this
  | x :: xs, y :: ys, hx, hy, h => by
    rw [List.pairwise_cons] at hx hy
    have e : x = y := by
      rcases List.mem_cons.1 ((h x).1 (by simp)) with e | h1
      · exact e
      · rcases List.mem_cons.1 ((h y).2 (by simp)) with e | h2
        · exact e.symm
        · exact absurd (hx.1 y h2) (ltE_asym (hy.1 x h1))
    subst e
    rw [sorted_ext xs ys hx.2 hy.2 (fun e => ?_)]
    constructor
    · intro he
      rcases List.mem_cons.1 ((h e).1 (List.mem_cons_of_mem _ he)) with q | q
      · subst q
        exact absurd (hx.1 e he) (ltE_irr e)
      · exact q
    · intro he
      rcases List.mem_cons.1 ((h e).2 (List.mem_cons_of_mem _ he)) with q | q
      · subst q
        exact absurd (hy.1 e he) (ltE_irr e)
      · exact q
theorem cut_filter {k : ByteArray} {s : Int} {ns P Q : List Nd} (h : Cut k s ns P Q) : entsOf Q = (entsOf ns).filter fun e => decide (cmpE e.k e.s k s ≠ -1) := by
  have e : entsOf ns = entsOf P ++ entsOf Q := by rw [h.all]; simp [entsOf]
  rw [e, List.filter_append, List.filter_eq_nil_iff.2, List.nil_append, List.filter_eq_self.2]
  · intro x hx
    obtain ⟨n, hn, rfl⟩ := mem_entsOf.1 hx
    exact decide_eq_true (h.behind n hn)
  · intro x hx
    obtain ⟨n, hn, rfl⟩ := mem_entsOf.1 hx
    simp [h.ahead n hn]
def getE (key : ByteArray) : List Ent → Option Ent
  | [] => none
  | x :: _ => if x.k = key then some x else none
theorem getR_ents (key : ByteArray) : ∀ Q : List Nd, getR key Q = getE key (entsOf Q)
  | [] => rfl
  | _ :: _ => rfl
theorem puts_mem {W : World} {x : Ent} {l : Nat} {ns ns' : List Nd} {t : Bool} (h : Puts W x l ns t ns') (e : Ent) : e ∈ entsOf ns' ↔ e ∈ entsOf ns ∨ (t = true ∧ e = x) := by
  rcases h with ⟨rfl, rfl, -⟩ | ⟨rfl, -, -, P, Q, a, hc, rfl, -⟩
  · simp
  · rw [hc.all]
    simp only [entsOf, List.map_append, List.map_cons, List.mem_append, List.mem_cons]
    constructor
    · rintro (h | h | h)
      · exact .inl (.inl h)
      · exact .inr ⟨trivial, h⟩
      · exact .inl (.inr h)
    · rintro ((h | h) | ⟨-, h⟩)
      · exact .inl h
      · exact .inr (.inr h)
      · exact .inr (.inl h)
theorem puts_foot {W : World} {x : Ent} {l p : Nat} {ns ns' : List Nd} {t : Bool} (h : Puts W x l ns t ns') : ∀ k ∈ foot p ns', k ∈ foot p ns ∨ W.heap.size ≤ k := by
  rcases h with ⟨-, rfl, -⟩ | ⟨-, -, -, P, Q, a, hc, rfl, ha⟩
  · exact fun k hk => .inl hk
  · intro k hk
    rcases foot_put hc.all k hk with rfl | hk
    · exact .inr ha
    · exact .inl hk
def okE (e : Ent) : Bool := validB e.k e.n e.v
/-- Just the right ones of the first i are there. -/
def Made (f : Nat → Ent) (i : Nat) (ns : List Nd) : Prop := ∀ e, e ∈ entsOf ns ↔ ∃ j, j < i ∧ f j = e ∧ okE e = true
theorem made_step {W : World} {f : Nat → Ent} {i l : Nat} {ns ns' : List Nd} {t : Bool} (hm : Made f i ns) (hd : ∀ j, j < i → ¬ same2 (f j) (f i)) (h : Puts W (f i) l ns t ns') : Made f (i + 1) ns' := by
  intro e
  rw [puts_mem h e, hm e]
  constructor
  · rintro (⟨j, h1, h2, h3⟩ | ⟨rfl, rfl⟩)
    · exact ⟨j, by omega, h2, h3⟩
    · rcases h with ⟨h0, -⟩ | ⟨-, hv, -⟩
      · cases h0
      · exact ⟨i, by omega, rfl, hv⟩
  · rintro ⟨j, h1, h2, h3⟩
    by_cases hj : j < i
    · exact .inl ⟨j, hj, h2, h3⟩
    · obtain rfl : j = i := by omega
      subst h2
      rcases h with ⟨-, -, hv | ⟨y, hy, hs⟩⟩ | ⟨rfl, -⟩
      · unfold okE at h3
        rw [h3] at hv
        cases hv
      · obtain ⟨q, q1, q2, -⟩ := (hm y.e).1 (mem_entsOf.2 ⟨y, hy, rfl⟩)
        exact absurd (by rw [q2]; exact hs) (hd q q1)
      · exact .inr ⟨rfl, rfl⟩
end Go.Proofs.YthaalhigmihijabGreat
