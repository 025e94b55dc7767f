/- Plain: Twin's second loop: one change more has its file copied. -/
import Derived.Test.YtbbfdenpegkpnaaSI
import Derived.Test.YtbbfdenpegkpnaaSJ
namespace Go.Proofs.Ytbbfdenpegkpnaa
open Go.RowKit

theorem madeIds_append (xs ys : List Chg) : madeIds (xs ++ ys) = madeIds xs ++ madeIds ys := by
  unfold madeIds
  rw [List.filterMap_append]
theorem renum_append : ∀ (xs ys : List Chg) (b : Nat), renum b (xs ++ ys) = renum b xs ++ renum (b + (madeIds xs).length) ys
  | [], _, _ => rfl
  | ⟨src, dst, none⟩ :: xs, ys, b => by
    have ih := renum_append xs ys b
    show ⟨src, dst, none⟩ :: renum b (xs ++ ys) = ⟨src, dst, none⟩ :: renum b xs ++ renum (b + (madeIds xs).length) ys
    rw [ih]
    rfl
  | ⟨src, dst, some i⟩ :: xs, ys, b => by
    have ih := renum_append xs ys (b + 1)
    have em : (madeIds (⟨src, dst, some i⟩ :: xs)).length = (madeIds xs).length + 1 := rfl
    rw [em]
    show ⟨src, dst, some b⟩ :: renum (b + 1) (xs ++ ys) = ⟨src, dst, some b⟩ :: renum (b + 1) xs ++ renum (b + ((madeIds xs).length + 1)) ys
    rw [ih, show b + ((madeIds xs).length + 1) = b + 1 + (madeIds xs).length by omega]
    rfl
theorem renum_length : ∀ (xs : List Chg) (b : Nat), (renum b xs).length = xs.length
  | [], _ => rfl
  | ⟨_, _, none⟩ :: xs, b => congrArg (· + 1) (renum_length xs b)
  | ⟨_, _, some _⟩ :: xs, b => congrArg (· + 1) (renum_length xs (b + 1))
/-- The third cell of a chunk. -/
theorem set_third (A B : List Value) (a b c u : Value) (n : Nat) (hn : A.length = n) : (A ++ ([a, b, c] ++ B)).set (n + 2) u = A ++ ([a, b, u] ++ B) := by
  subst hn
  rw [List.set_append_right _ _ (by omega)]
  simp
theorem chunks_length (f : Nat → Nat) : ∀ cs : List Chg, (cs.flatMap (chgCells f)).length = cs.length * 3
  | [] => rfl
  | c :: cs => by
    rw [List.flatMap_cons, List.length_append, chunks_length f cs]
    simp only [chgCells, List.length_cons, List.length_nil]
    omega
theorem chunks_congr {f g : Nat → Nat} {cs : List Chg} (h : ∀ c ∈ cs, ∀ i, c.made = some i → f i = g i) : cs.flatMap (chgCells f) = cs.flatMap (chgCells g) := by
  induction cs with
  | nil => rfl
  | cons c cs ih =>
    rw [List.flatMap_cons, List.flatMap_cons, ih (fun c hc => h c (List.mem_cons_of_mem _ hc))]
    congr 1
    unfold chgCells
    cases hm : c.made with
    | none => rfl
    | some i =>
      simp only [Option.map_some]
      rw [h c (by simp) i hm]
/-- Lists of blocks of distinct names lie apart. -/
theorem nodup_files {G : Nm → Nat × Value} : ∀ {l : Dir}, l.Pairwise (fun p q => p.1 ≠ q.1) → (∀ p ∈ l, (fFoot (G p.1)).Nodup) → (∀ p ∈ l, ∀ q ∈ l, p.1 ≠ q.1 → ∀ k ∈ fFoot (G p.1), k ∉ fFoot (G q.1)) → ((l.map fun p => G p.1).flatMap fFoot).Nodup
  | [], _, _, _ => by simp
  | p :: l, hp, h1, h2 => by
    have hc := List.pairwise_cons.1 hp
    have ih := nodup_files hc.2 (fun q hq => h1 q (List.mem_cons_of_mem _ hq)) (fun q hq r hr => h2 q (List.mem_cons_of_mem _ hq) r (List.mem_cons_of_mem _ hr))
    rw [List.map_cons, List.flatMap_cons, List.nodup_append]
    refine ⟨h1 p (by simp), ih, fun k hk j hj e => ?_⟩
    subst e
    obtain ⟨x, hx, hkx⟩ := List.mem_flatMap.1 hj
    obtain ⟨q, hq, rfl⟩ := List.mem_map.1 hx
    exact h2 p (by simp) q (List.mem_cons_of_mem _ hq) (hc.1 q hq) k hk hkx
end Go.Proofs.Ytbbfdenpegkpnaa
