/- The document's own Pick, over the versions of BR3 (as YH over the Y parts); of versions in order it is the first one (findT). -/
import Derived.Test.YtmnboiikopkaoaaGreatTE
import Derived.Test.YtmnboiikopkaoaaGreatTL
namespace Go.Proofs.YtmnboiikopkaoaaGreat
open Go.RowKit

def getV (o : Option Ent) : Value := .tuple #[(o.getD Ent.zero).val, .bool o.isSome]
def picks (key : ByteArray) (seq : Int) (o : Option Ent) (x : Ent) : Bool := x.k.toList == key.toList && (decide (x.s ≤ seq) && (!o.isSome || decide ((o.getD Ent.zero).s < x.s)))
def pickF (key : ByteArray) (seq : Int) : List Ent → Option Ent
  | es => es.foldl (fun o x => if picks key seq o x = true then some x else o) none
theorem pickF_take (key : ByteArray) (seq : Int) (es : List Ent) (i : Nat) (h : i < es.length) : pickF key seq (es.take (i + 1)) = if picks key seq (pickF key seq (es.take i)) es[i] = true then some es[i] else pickF key seq (es.take i) := by
  unfold pickF
  rw [List.take_succ_eq_append_getElem h, List.foldl_append]
  rfl
theorem keep4 {B C : Nat} {k k' : ByteArray} {s s' n n' : Int} {v v' : ByteArray} {w : World} (h : Boxe B k s n v w) (hne : B ≠ C) : Boxe B k s n v ((((w.setCell ⟨C, 0, none⟩ (.string k')).setCell ⟨C, 1, none⟩ (.int .u64 s')).setCell ⟨C, 2, none⟩ (.int .i64 n')).setCell ⟨C, 3, none⟩ (.string v')) :=
  (heap_setCell_other _ ⟨C, 3, none⟩ B _ hne).trans ((heap_setCell_other _ ⟨C, 2, none⟩ B _ hne).trans ((heap_setCell_other _ ⟨C, 1, none⟩ B _ hne).trans ((heap_setCell_other w ⟨C, 0, none⟩ B _ hne).trans h)))
theorem boxe_set {B : Nat} {k k' : ByteArray} {s s' n n' : Int} {v v' : ByteArray} {w : World} (h : Boxe B k s n v w) : Boxe B k' s' n' v' ((((w.setCell ⟨B, 0, none⟩ (.string k')).setCell ⟨B, 1, none⟩ (.int .u64 s')).setCell ⟨B, 2, none⟩ (.int .i64 n')).setCell ⟨B, 3, none⟩ (.string v')) := by
  have h1 := heap_setCell_same w B 0 _ _ (.string k') h
  have h2 := heap_setCell_same _ B 1 _ _ (.int .u64 s') h1
  have h3 := heap_setCell_same _ B 2 _ _ (.int .i64 n') h2
  have h4 := heap_setCell_same _ B 3 _ _ (.string v') h3
  exact h4
/-- In order: each one before each later one. -/
theorem ordB_two {es : List Ent} (ho : ordB es es.length = true) {i : Nat} : ∀ j, i < j → j < es.length → cmpN (entAt es i) (entAt es j) = -1 := by
  intro j
  induction j with
  | zero => intro h; omega
  | succ j ih =>
    intro h1 h2
    have hc := (ordB_at ho h2).2 (by omega)
    rw [show j + 1 - 1 = j by omega] at hc
    have hs : cmpN (entAt es j) (entAt es (j + 1)) = -1 := by
      unfold cmpN at *
      rcases cmpE_vals (entAt es j).k (entAt es j).s (entAt es (j + 1)).k (entAt es (j + 1)).s with h | h | h <;> omega
    by_cases e : i = j
    · rw [e]; exact hs
    · exact cmpE_trans _ _ _ _ _ _ (ih (by omega) (by omega)) hs
theorem ordB_seq {es : List Ent} (ho : ordB es es.length = true) {i j : Nat} (hij : i < j) (hj : j < es.length) (hk : (entAt es i).k = (entAt es j).k) : (entAt es j).s < (entAt es i).s := by
  have h := ordB_two ho j hij hj
  unfold cmpN at h
  rw [hk, cmpE_same] at h
  unfold cmpU at h
  split at h
  · assumption
  · split at h <;> simp at h
theorem keyEq (a b : ByteArray) : (a.toList == b.toList) = decide (a = b) := by
  rw [ByteArray.toList_eq, ByteArray.toList_eq]
  by_cases h : a = b
  · rw [h]; simp
  · rw [decide_eq_false h]
    refine beq_eq_false_iff_ne.2 (fun e => h ?_)
    exact ByteArray.ext (Array.toList_inj.1 e)
/-- Of versions in order the document's Pick is the first one that fits. -/
theorem pick_find {es : List Ent} (ho : ordB es es.length = true) (key : ByteArray) (seq : Nat) : pickF key (seq : Int) es = findT es key seq := by
  have main : ∀ k, k ≤ es.length → pickF key (seq : Int) (es.take k) = findT (es.take k) key seq := by
    intro k
    induction k with
    | zero => intro _; rfl
    | succ k ih =>
      intro hk
      rw [pickF_take key _ es k (by omega), ih (by omega), List.take_succ_eq_append_getElem (show k < es.length by omega)]
      have hf : findT (es.take k ++ [es[k]]) key seq = (findT (es.take k) key seq).or (if es[k].k = key ∧ es[k].s ≤ (seq : Int) then some es[k] else none) := by
        unfold findT
        rw [List.find?_append]
        by_cases h : es[k].k = key ∧ es[k].s ≤ (seq : Int)
        · rw [if_pos h, List.find?_cons_of_pos (by exact decide_eq_true h)]
        · rw [if_neg h, List.find?_cons_of_neg (by rw [decide_eq_false h]; simp)]; rfl
      rw [hf]
      unfold picks
      rw [keyEq]
      cases ho' : findT (es.take k) key seq with
      | none =>
        simp only [Option.isSome_none, Bool.not_false, Bool.true_or, Bool.and_true, Option.none_or]
        by_cases h1 : es[k].k = key <;> by_cases h2 : es[k].s ≤ (seq : Int) <;> simp [h1, h2]
      | some y =>
        have hn : ¬ (es[k].k = key ∧ y.s < es[k].s) := by
          rintro ⟨e1, e2⟩
          unfold findT at ho'
          obtain ⟨hp, i, hi, hy, -⟩ := List.find?_eq_some_iff_getElem.1 ho'
          rw [List.length_take] at hi
          rw [List.getElem_take] at hy
          have hp' := of_decide_eq_true hp
          have hlt := ordB_seq ho (i := i) (j := k) (by omega) (by omega) (by rw [entAt_get (show i < es.length by omega), entAt_get (show k < es.length by omega), hy, e1]; exact hp'.1)
          rw [entAt_get (show i < es.length by omega), entAt_get (show k < es.length by omega), hy] at hlt
          omega
        simp only [Option.isSome_some, Bool.not_true, Bool.false_or, Option.getD_some, Option.some_or]
        rw [if_neg]
        intro h
        simp only [Bool.and_eq_true, decide_eq_true_eq] at h
        exact hn ⟨h.1, h.2.2⟩
  have h := main es.length (Nat.le_refl _)
  rw [List.take_length] at h
  exact h
end Go.Proofs.YtmnboiikopkaoaaGreat
