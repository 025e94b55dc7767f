/- Plain: names of segments among the files, and their order. -/
import Derived.Test.YtlgcbapgbpofoaaGreatWM
import Derived.Test.YtlgcbapgbpofoaaGreatWI
namespace Go.Proofs.YtlgcbapgbpofoaaGreat

theorem segs_ins (x : Nm × Nat) : ∀ d : Dir, (segs ((dins x d).map (·.1))).length = (segs (d.map (·.1))).length + (numOf x.1).toList.length
  | [] => by
    show (segs [x.1]).length = _
    unfold segs
    cases h : numOf x.1 <;> simp [h]
  | y :: r => by
    have ih := segs_ins x r
    unfold dins
    unfold segs at *
    split
    · simp only [List.map_cons, List.filterMap_cons]
      cases h : numOf x.1 <;> cases h2 : numOf y.1 <;> simp
    · simp only [List.map_cons, List.filterMap_cons]
      cases h2 : numOf y.1 <;> simp only [List.length_cons, ih] <;> omega
theorem ddel_none {d : Dir} {n : Nm} (h : dget d n = none) : ddel d n = d := by
  unfold ddel
  rw [List.filter_eq_self]
  intro p hp
  unfold dget at h
  rw [Option.map_eq_none_iff, List.find?_eq_none] at h
  have := h p hp
  simpa using this
/-- The power is on, nothing is to fail, and so many segments are there. -/
structure NmInv (s : St) (n : Nat) : Prop where
  on : s.on = true
  fuse : s.fuse = -1
  bad : s.bad = -1
  rise : Rise s.now
  cnt : (segs (s.now.map (·.1))).length = n
theorem create_form {s : St} {n : Nat} (h : NmInv s n) (nm : Nm) : s.create nm = actCreate nm s.begun := by
  have hb : s.begun.on = true := by simp [St.begun, h.fuse, over]
  unfold St.create wr
  rw [if_pos h.on]
  simp only [hb, if_true]
theorem begun_inv {s : St} {n : Nat} (h : NmInv s n) : NmInv s.begun n := ⟨by simp [St.begun, h.fuse, over], by simp [St.begun, h.fuse, tick], h.bad, h.rise, h.cnt⟩
theorem create_inv {s : St} {n : Nat} (h : NmInv s n) (nm : Nm) :
    ((s.create nm).2 = 0 ∧ NmInv (s.create nm).1 (n + (numOf nm).toList.length)) ∨ ((s.create nm).2 = 8 ∧ NmInv (s.create nm).1 n) ∨ ((s.create nm).2 = 1 ∧ isNm nm = false ∧ NmInv (s.create nm).1 n) := by
  rw [create_form h]
  have hb := begun_inv h
  unfold actCreate
  cases hn : isNm nm with
  | false => exact .inr (.inr ⟨rfl, rfl, hb⟩)
  | true =>
    cases hg : dget s.begun.now nm with
    | some a => exact .inr (.inl ⟨by simp, by simpa using hb⟩)
    | none =>
      left
      have hne : nm ≠ [] := by
        rintro rfl
        exact Bool.noConfusion hn
      have hrun : (Chg.mk [] nm (some s.begun.files.length)).run s.begun.now = dput s.begun.now nm s.begun.files.length := Chg.run_put _ _ hne rfl
      refine ⟨by simp, ?_⟩
      simp only [if_true, Option.isSome_none, Bool.false_eq_true, if_false]
      refine ⟨hb.on, hb.fuse, hb.bad, ?_, ?_⟩
      · show Rise ((Chg.mk [] nm (some s.begun.files.length)).run s.begun.now)
        rw [hrun]
        exact hb.rise.put _ _
      · show (segs (((Chg.mk [] nm (some s.begun.files.length)).run s.begun.now).map (·.1))).length = _
        rw [hrun]
        unfold dput
        rw [ddel_none hg, segs_ins, hb.cnt]
theorem syncDir_inv {s : St} {n : Nat} (h : NmInv s n) : s.syncDir.2 = 0 ∧ NmInv s.syncDir.1 n := by
  have hb : s.begun.on = true := (begun_inv h).on
  have ho : over s.bad = false := by rw [h.bad]; decide
  have e : s.syncDir = (s.begun.bads.settle, 0) := by
    unfold St.syncDir sy
    rw [if_pos h.on, if_pos hb, ho]
    rfl
  rw [e]
  exact ⟨rfl, hb, by simp [St.begun, St.bads, St.settle, h.fuse, tick], by simp [St.begun, St.bads, St.settle, h.bad, tick], h.rise, h.cnt⟩
theorem mkLog_inv {s : St} {n : Nat} (h : NmInv s n) (num : Nat) (hn : num < 100000000) : ((mkLog s num).2 = 0 ∧ NmInv (mkLog s num).1 (n + 1)) ∨ ((mkLog s num).2 = 8 ∧ NmInv (mkLog s num).1 n) := by
  rcases create_inv h (nameB num) with ⟨h1, h2⟩ | ⟨h1, h2⟩ | ⟨h1, h2, -⟩
  · rw [mkLog_yes h1]
    rw [numOf_name num hn] at h2
    have := syncDir_inv h2
    exact .inl this
  · rw [mkLog_no (by rw [h1]; decide)]
    exact .inr ⟨h1, h2⟩
  · rw [show isNm (nameB num) = true from rfl] at h2
    cases h2
theorem other_inv {s : St} {n : Nat} (h : NmInv s n) (nm : Nm) (hl : nm.length ≠ 9) : NmInv (s.create nm).1 n := by
  have hz : numOf nm = none := by
    unfold numOf
    rw [if_neg (fun h => hl h.1)]
  rcases create_inv h nm with ⟨-, h2⟩ | ⟨-, h2⟩ | ⟨-, -, h2⟩
  · rw [hz] at h2
    exact h2
  · exact h2
  · exact h2
theorem new_inv : NmInv (St.new 0) 0 := ⟨rfl, rfl, rfl, rise_nil, rfl⟩
theorem dg_from (l : List UInt8) : ∀ a : Nat, l.foldl (fun a b => a * 10 + (b.toNat - 48)) a = a * 10 ^ l.length + dgVal l := by
  induction l with
  | nil => intro a; simp [dgVal]
  | cons b r ih =>
    intro a
    have h1 := ih (a * 10 + (b.toNat - 48))
    have h2 := ih (0 * 10 + (b.toNat - 48))
    have e : dgVal (b :: r) = r.foldl (fun a b => a * 10 + (b.toNat - 48)) (0 * 10 + (b.toNat - 48)) := rfl
    rw [e, List.foldl_cons, h1, h2, List.length_cons, Nat.pow_succ]
    rw [Nat.add_mul, Nat.mul_assoc, Nat.mul_comm 10 (10 ^ r.length), Nat.zero_mul, Nat.zero_add]
    omega
theorem dg_cons (b : UInt8) (r : List UInt8) : dgVal (b :: r) = (b.toNat - 48) * 10 ^ r.length + dgVal r := by
  have h := dg_from r (0 * 10 + (b.toNat - 48))
  have e : dgVal (b :: r) = r.foldl (fun a b => a * 10 + (b.toNat - 48)) (0 * 10 + (b.toNat - 48)) := rfl
  rw [e, h, Nat.zero_mul, Nat.zero_add]
theorem dg_lt : ∀ (l m : List UInt8), l.length = m.length → l.all isDg = true → m.all isDg = true → bytesBefore l m = true → dgVal l < dgVal m
  | [], [], _, _, _, h => by simp [bytesBefore] at h
  | a :: l, b :: m, hl, h1, h2, h => by
    rw [List.all_cons, Bool.and_eq_true] at h1 h2
    have hlen : l.length = m.length := by simpa using hl
    have ha : 48 ≤ a.toNat ∧ a.toNat ≤ 57 := by have := h1.1; simp only [isDg, decide_eq_true_eq] at this; exact this
    have hb : 48 ≤ b.toNat ∧ b.toNat ≤ 57 := by have := h2.1; simp only [isDg, decide_eq_true_eq] at this; exact this
    rw [dg_cons, dg_cons, hlen]
    simp only [bytesBefore, Bool.or_eq_true, decide_eq_true_eq, Bool.and_eq_true, beq_iff_eq] at h
    rcases h with h | ⟨rfl, h⟩
    · have hab : a.toNat < b.toNat := UInt8.lt_iff_toNat_lt.mp h
      have hlt := dgVal_lt l h1.2 m.length (by omega)
      have : (a.toNat - 48 + 1) * 10 ^ m.length ≤ (b.toNat - 48) * 10 ^ m.length := Nat.mul_le_mul_right _ (by omega)
      rw [Nat.add_mul, Nat.one_mul] at this
      omega
    · have := dg_lt l m hlen h1.2 h2.2 h
      omega
theorem num_parts {l : List UInt8} {x : Nat} (h : numOf l = some x) : ∃ r, l = 119 :: r ∧ r.length = 8 ∧ r.all isDg = true ∧ x = dgVal r := by
  unfold numOf at h
  split at h
  · rename_i hc
    match l, hc with
    | a :: r, hc =>
      simp at hc
      obtain ⟨h1, rfl, h3⟩ := hc
      refine ⟨r, rfl, h1, by simpa using h3, ?_⟩
      have := Option.some.inj h
      simpa using this.symm
  · cases h
theorem num_lt {l m : List UInt8} {x y : Nat} (hl : numOf l = some x) (hm : numOf m = some y) (h : bytesBefore l m = true) : x < y := by
  obtain ⟨r, rfl, h1, h2, rfl⟩ := num_parts hl
  obtain ⟨t, rfl, h3, h4, rfl⟩ := num_parts hm
  refine dg_lt r t (by omega) h2 h4 ?_
  simpa [bytesBefore] using h
theorem num_small {l : List UInt8} {x : Nat} (h : numOf l = some x) : x < 100000000 := by
  obtain ⟨r, -, h1, h2, rfl⟩ := num_parts h
  exact Nat.lt_of_lt_of_le (dgVal_lt r h2 8 (by omega)) (by decide)
theorem segs_rise {d : Dir} (h : Rise d) : (segs (d.map (·.1))).Pairwise (· < ·) := by
  unfold segs
  rw [List.pairwise_filterMap, List.pairwise_map]
  refine h.imp ?_
  intro p q hpq x hx y hy
  exact num_lt hx hy hpq
theorem segs_small (ns : List Nm) : ∀ z ∈ segs ns, z < 100000000 := by
  intro z hz
  obtain ⟨l, -, hl⟩ := List.mem_filterMap.1 hz
  exact num_small hl
/-- A row's cells, read. -/
theorem row_readN {w : World} {e : TypeId} {size : Nat} {U : Value} {n : Nat} {cs : List Value} (h : Row w e size U n cs) : ∃ a c, U = .slice a n c ∧ (n = 0 ∨ ∃ g, a = some ⟨g, 0, none⟩ ∧ g < w.heap.size ∧ ∀ (j : Nat) (u : Value), cs[j]? = some u → w.cell? ⟨g, j, none⟩ = some u) := by
  obtain ⟨a, c, rfl, -, -⟩ := h.le
  refine ⟨a, c, rfl, ?_⟩
  rcases h.2 with ⟨h0, -⟩ | ⟨g, cap', cur, e1, hg, -⟩
  · exact .inl h0
  · simp only [Value.slice.injEq] at e1
    obtain ⟨rfl, -, rfl⟩ := e1
    refine .inr ⟨g, rfl, (Array.getElem?_eq_some_iff.1 hg).1, fun j u hu => ?_⟩
    have := h.cell g 0 _ rfl j u hu
    rw [Nat.zero_add] at this
    exact this
end Go.Proofs.YtlgcbapgbpofoaaGreat
