/- Plain: what Shadow leaves of an ordered list shows the same. -/
import Derived.Test.YthaalhigmihijaaEB
namespace Go.Proofs.Ythaalhigmihijaa
open Go.RowKit Go.Lib

/-- Versions in order, none twice. -/
def Ord (es : List Ent) : Prop := ∀ i j, i < j → j < es.length → cmpE (es.getD i default).k (es.getD i default).s (es.getD j default).k (es.getD j default).s = -1
theorem cmp_lt {a b : Ent} (h : cmpE a.k a.s b.k b.s = -1) (hk : a.k = b.k) : b.s < a.s := by
  rw [hk, cmpE_same] at h
  unfold cmpU at h
  split at h
  · assumption
  · split at h <;> omega
theorem cmp_keys {a b c : Ent} (h1 : cmpE a.k a.s b.k b.s = -1) (h2 : cmpE b.k b.s c.k c.s = -1) (hk : a.k = c.k) : b.k = c.k := by
  have h3 := cmpE_swap b.k b.s c.k c.s
  unfold cmpE at h1 h2
  by_cases p : compareBytes b.k.data.toList c.k.data.toList = 0
  · exact bytes_ext (cb_eq _ _ p)
  · rw [if_neg p] at h2
    rw [hk] at h1
    by_cases q : compareBytes c.k.data.toList b.k.data.toList = 0
    · exact (bytes_ext (cb_eq _ _ q)).symm
    · rw [if_neg q, cb_swap b.k.data.toList c.k.data.toList] at h1
      omega
/-- Of one key all stand together. -/
theorem Ord.near {es : List Ent} (h : Ord es) {i j : Nat} (hij : i < j) (hj : j < es.length) (hk : (es.getD i default).k = (es.getD j default).k) : (es.getD (j - 1) default).k = (es.getD j default).k := by
  by_cases he : i = j - 1
  · rw [← he]; exact hk
  · exact cmp_keys (h i (j - 1) (by omega) (by omega)) (h (j - 1) j (by omega) hj) hk
theorem Ord.fall {es : List Ent} (h : Ord es) {i j : Nat} (hij : i < j) (hj : j < es.length) (hk : (es.getD i default).k = (es.getD j default).k) : (es.getD j default).s < (es.getD i default).s := cmp_lt (h i j hij hj) hk
/-- The version at i is one of key at most at q. -/
def Hit (es : List Ent) (key : ByteArray) (q : Int) (i : Nat) : Prop := (es.getD i default).k = key ∧ (es.getD i default).s ≤ q
theorem best_first {es : List Ent} (h : Ord es) (key : ByteArray) (q : Int) : ∀ i, i ≤ es.length → (best es key q i = -1 ∧ ∀ j, j < i → ¬ Hit es key q j) ∨ (∃ c : Nat, best es key q i = c ∧ c < i ∧ Hit es key q c ∧ ∀ j, j < c → ¬ Hit es key q j)
  | 0, _ => .inl ⟨rfl, fun j hj => by omega⟩
  | i + 1, hi => by
    rcases best_first h key q i (by omega) with ⟨h1, h2⟩ | ⟨c, h1, h2, h3, h4⟩
    · by_cases hh : Hit es key q i
      · refine .inr ⟨i, ?_, by omega, hh, h2⟩
        unfold best
        rw [h1, if_pos ⟨hh.1, hh.2, .inl (by omega)⟩]
      · refine .inl ⟨?_, fun j hj => ?_⟩
        · unfold best
          rw [h1, if_neg (fun x => hh ⟨x.1, x.2.1⟩)]
        · by_cases hj2 : j < i
          · exact h2 j hj2
          · obtain rfl : j = i := by omega
            exact hh
    · refine .inr ⟨c, ?_, by omega, h3, h4⟩
      unfold best
      rw [h1, if_neg]
      rintro ⟨x1, x2, x3⟩
      have := h.fall h2 (by omega) (h3.1.trans x1.symm)
      rcases x3 with x3 | x3
      · omega
      · rw [Int.toNat_natCast] at x3
        omega
/-- Somebody may see the version at i. -/
def Seen (es : List Ent) (zs : List Int) (i : Nat) : Prop := ¬ (0 < i ∧ (es.getD (i - 1) default).k = (es.getD i default).k) ∨ ∃ z ∈ zs, (es.getD i default).s ≤ z ∧ z < (es.getD (i - 1) default).s
theorem cnt_lt {zs : List Int} {a b : Int} (h : cnt zs a < cnt zs b) : ∃ z ∈ zs, a ≤ z ∧ z < b := by
  induction zs with
  | nil => simp [cnt] at h
  | cons y ys ih =>
    unfold cnt at h ih
    rw [List.countP_cons, List.countP_cons] at h
    by_cases hy : a ≤ y ∧ y < b
    · exact ⟨y, by simp, hy.1, hy.2⟩
    · have h2 : cnt ys a < cnt ys b := by
        unfold cnt
        by_cases h1 : y < a <;> by_cases h3 : y < b <;> simp [h1, h3] at h <;> omega
      obtain ⟨z, hz, h3⟩ := ih h2
      exact ⟨z, by simp [hz], h3⟩
theorem cnt_mono (zs : List Int) {a b : Int} (h : a ≤ b) : cnt zs a ≤ cnt zs b := by
  unfold cnt
  exact List.countP_mono_left (fun x _ hx => by simp at hx ⊢; omega)
theorem cnt_hit {zs : List Int} {a b z : Int} (hz : z ∈ zs) (h1 : a ≤ z) (h2 : z < b) : cnt zs a < cnt zs b := by
  induction zs with
  | nil => cases hz
  | cons y ys ih =>
    have hm := cnt_mono ys (show a ≤ b by omega)
    unfold cnt at *
    rw [List.countP_cons, List.countP_cons]
    rcases List.mem_cons.1 hz with rfl | hz
    · rw [if_neg (by simp; omega), if_pos (by simp; omega)]
      omega
    · have := ih hz
      by_cases h3 : y < a
      · rw [if_pos (by simp; omega), if_pos (by simp; omega)]
        omega
      · rw [if_neg (by simp; omega)]
        split <;> omega
theorem seen_iff (es : List Ent) (zs : List Int) (i : Nat) : 0 < seenAt es zs i ↔ Seen es zs i := by
  have hle := cnt_le zs (es.getD i default).s
  have e : (0 < seenAt es zs i) ↔ 0 < numAt es zs i := by
    unfold seenAt
    split <;> omega
  rw [e]
  unfold numAt leftAt
  by_cases hk : 0 < i ∧ (es.getD (i - 1) default).k = (es.getD i default).k
  · rw [if_pos hk]
    constructor
    · intro h
      exact .inr (cnt_lt (by omega))
    · rintro (h | ⟨z, hz, h1, h2⟩)
      · exact absurd hk h
      · have := cnt_hit hz h1 h2
        omega
  · rw [if_neg hk]
    constructor
    · intro _
      exact .inl hk
    · intro _
      omega
/-- The places that are left. -/
def left (es : List Ent) (zs : List Int) (n : Nat) : List Nat := (List.range n).filter fun i => decide (0 < seenAt es zs i)
theorem shad_left (es : List Ent) (zs : List Int) : ∀ n, shad es zs n = (left es zs n).map fun i => es.getD i default
  | 0 => rfl
  | n + 1 => by
    unfold shad
    rw [shad_left es zs n]
    unfold left
    rw [List.range_succ, List.filter_append, List.map_append]
    congr 1
    by_cases h : 0 < seenAt es zs n
    · rw [if_pos h]
      simp [h]
    · rw [if_neg h]
      simp [h]
theorem left_rise (es : List Ent) (zs : List Int) (n : Nat) : (left es zs n).Pairwise (· < ·) := by
  unfold left
  exact List.Pairwise.filter _ List.pairwise_lt_range
theorem left_mem (es : List Ent) (zs : List Int) (n i : Nat) : i ∈ left es zs n ↔ i < n ∧ Seen es zs i := by
  unfold left
  rw [List.mem_filter, List.mem_range, decide_eq_true_eq, seen_iff]
end Go.Proofs.Ythaalhigmihijaa
