/- mem, plain: the versions of a batch; what Add does. -/
import Derived.Test.YthaalhigmihijabM2
namespace Go.Proofs.Ythaalhigmihijab
open Go.RowKit

/-- What a write makes of its key, at a number. -/
def verE (x : Wr) (s : Nat) : Ent := ⟨x.k, (s : Int), if x.d then 2 else 1, x.v⟩
def vers (first : Nat) : List Wr → List Ent
  | [] => []
  | x :: r => verE x first :: vers (first + 1) r
theorem vers_length : ∀ (ws : List Wr) (f : Nat), (vers f ws).length = ws.length
  | [], _ => rfl
  | _ :: r, f => by simp [vers, vers_length r]
theorem vers_get : ∀ (ws : List Wr) (f i : Nat) (h : i < ws.length), (vers f ws)[i]? = some (verE ws[i] (f + i))
  | x :: r, f, 0, _ => rfl
  | x :: r, f, i + 1, h => by
    have := vers_get r (f + 1) i (by simpa using h)
    rw [show vers f (x :: r) = verE x f :: vers (f + 1) r from rfl, List.getElem?_cons_succ, this]
    rw [show f + 1 + i = f + (i + 1) by omega]
    rfl
theorem vers_mem {ws : List Wr} {f : Nat} {e : Ent} (h : e ∈ vers f ws) : ∃ i, ∃ hi : i < ws.length, e = verE ws[i] (f + i) := by
  obtain ⟨i, hi⟩ := List.mem_iff_getElem?.1 h
  have hl : i < ws.length := by rw [← vers_length ws f]; exact (List.getElem?_eq_some_iff.1 hi).1
  rw [vers_get ws f i hl] at hi
  exact ⟨i, hl, (Option.some.inj hi).symm⟩
theorem vers_take {ws : List Wr} {f i : Nat} {e : Ent} (h : e ∈ (vers f ws).take i) : (f : Int) ≤ e.s ∧ e.s < ((f + i : Nat) : Int) := by
  obtain ⟨j, hj⟩ := List.mem_iff_getElem?.1 h
  have hjl := (List.getElem?_eq_some_iff.1 hj).1
  rw [List.length_take, vers_length] at hjl
  rw [List.getElem?_take_of_lt (by omega), vers_get ws f j (by omega)] at hj
  rw [← Option.some.inj hj]
  simp only [verE]
  omega
def sizeL (L : List Ent) : Nat := (L.map sizeE).sum
theorem sizeL_append (A B : List Ent) : sizeL (A ++ B) = sizeL A + sizeL B := by simp [sizeL]
theorem sizeL_le : ∀ (L : List Ent) (n : Nat), (∀ e ∈ L, e.Fit) → L.length ≤ n → sizeL L ≤ n * 60316
  | [], _, _, _ => by simp [sizeL]
  | e :: L, n, h, hl => by
    cases n with
    | zero => simp at hl
    | succ n =>
      have h1 := sizeL_le L n (fun x hx => h x (List.mem_cons_of_mem _ hx)) (by simpa using hl)
      have h2 := h e (by simp)
      have e1 : sizeL (e :: L) = sizeE e + sizeL L := by simp [sizeL]
      rw [e1, Nat.add_mul]
      unfold sizeE
      have := h2.1
      have := h2.2.1
      omega
/-- Does Add take it? -/
def addOk (la first : Nat) (ws : List Wr) : Bool := wrsOk ws && decide (la < first) && decide (first + ws.length ≤ 4611686018427387904)
def addV (la first : Nat) (ws : List Wr) : Value := if addOk la first ws then .tuple #[.int .u64 ((first + ws.length : Nat) : Int), .int .i64 0] else .tuple #[.int .u64 0, .int .i64 1]
def addL (L : List Ent) (la first : Nat) (ws : List Wr) : List Ent := if addOk la first ws then L ++ vers first ws else L
def addLa (la first : Nat) (ws : List Wr) : Nat := if addOk la first ws then first + ws.length - 1 else la
theorem addOk_no {la first : Nat} {ws : List Wr} (h : addOk la first ws = false) (L : List Ent) : addV la first ws = .tuple #[.int .u64 0, .int .i64 1] ∧ addL L la first ws = L ∧ addLa la first ws = la := by
  unfold addV addL addLa
  rw [h]
  exact ⟨rfl, rfl, rfl⟩
theorem addOk_yes {la first : Nat} {ws : List Wr} (h : addOk la first ws = true) (L : List Ent) : addV la first ws = .tuple #[.int .u64 ((first + ws.length : Nat) : Int), .int .i64 0] ∧ addL L la first ws = L ++ vers first ws ∧ addLa la first ws = first + ws.length - 1 := by
  unfold addV addL addLa
  rw [h]
  exact ⟨rfl, rfl, rfl⟩
theorem addOk_of {la first : Nat} {ws : List Wr} (h1 : wrsOk ws = true) (h2 : la < first) (h3 : first + ws.length ≤ 4611686018427387904) : addOk la first ws = true := by
  unfold addOk
  rw [h1, decide_eq_true h2, decide_eq_true h3]
  rfl
theorem addOk_bad {la first : Nat} {ws : List Wr} (h : wrsOk ws = false ∨ ¬ la < first ∨ ¬ first + ws.length ≤ 4611686018427387904) : addOk la first ws = false := by
  unfold addOk
  rcases h with h | h | h
  · rw [h]; rfl
  · rw [decide_eq_false h, Bool.and_false]; rfl
  · rw [decide_eq_false h, Bool.and_false]
theorem verE_valid {x : Wr} (h : wrOk x = true) (s : Nat) : validB (verE x s).k (verE x s).n (verE x s).v = true := by
  have h1 := wrOk_sizes h
  unfold wrOk at h
  simp at h
  unfold validB verE
  cases hd : x.d with
  | false => simp; omega
  | true =>
    have hv : x.v = ByteArray.empty := by
      rcases h.2 with h2 | h2
      · rw [hd] at h2
        cases h2
      · exact h2
    rw [hv]
    simp
    omega
theorem verE_nice {x : Wr} (h : wrOk x = true) {s : Nat} (hs : s < 18446744073709551616) : (verE x s).Nice := by
  have h1 := wrOk_sizes h
  refine ⟨?_, ?_, ?_, ?_⟩ <;> simp only [verE] <;> (try unfold maxLen) <;> omega
theorem verE_fit {x : Wr} (h : wrOk x = true) {s : Nat} (hs : s < 18446744073709551616) : (verE x s).Fit := by
  have h1 := wrOk_sizes h
  refine ⟨?_, ?_, ?_, ?_⟩ <;> simp only [verE] <;> omega
/-- The table at p holds the versions L, the last number is la. -/
structure Mem (B p : Nat) (ds : List Int) (L : List Ent) (la : Nat) (ns : List Nd) (w : World) : Prop where
  tab : Tab B p ds ns (sizeL L) la w
  mem : ∀ e, e ∈ entsOf ns ↔ e ∈ L
  len : ns.length = L.length
  old : ∀ e ∈ L, e.s ≤ (la : Int)
theorem Mem.below {B p la : Nat} {ds : List Int} {L : List Ent} {ns : List Nd} {w w' : World} (h : Mem B p ds L la ns w) (hb : Below w.heap.size w w') : Mem B p ds L la ns w' := ⟨h.tab.below hb, h.mem, h.len, h.old⟩
theorem Mem.drew {B p la : Nat} {ds : List Int} {L : List Ent} {ns : List Nd} {w : World} (h : Mem B p ds L la ns w) : Mem B p ds L la ns w.drew := ⟨h.tab.drew, h.mem, h.len, h.old⟩
theorem Mem.fit {B p la : Nat} {ds : List Int} {L : List Ent} {ns : List Nd} {w : World} (h : Mem B p ds L la ns w) : ∀ e ∈ L, e.Fit := fun e he => by
  obtain ⟨n, hn, rfl⟩ := mem_entsOf.1 ((h.mem e).2 he)
  exact h.tab.skp.right.fit n hn
/-- Behind the first i versions of a batch. -/
structure Adds (B p : Nat) (ds : List Int) (L V : List Ent) (la i : Nat) (ns : List Nd) (w : World) : Prop where
  tab : Tab B p ds ns (sizeL L + sizeL (V.take i)) la w
  mem : ∀ e, e ∈ entsOf ns ↔ e ∈ L ∨ e ∈ V.take i
  len : ns.length = L.length + i
theorem Mem.adds {B p la : Nat} {ds : List Int} {L : List Ent} {ns : List Nd} {w : World} (h : Mem B p ds L la ns w) (V : List Ent) : Adds B p ds L V la 0 ns w :=
  ⟨by simpa [sizeL] using h.tab, fun e => by simp [h.mem e], by simp [h.len]⟩
theorem Adds.step {B p la i : Nat} {ds : List Int} {L V : List Ent} {ns ns' : List Nd} {x : Ent} {l : Nat} {w w' W : World} (h : Adds B p ds L V la i ns w) (hx : V[i]? = some x) (hp : Puts W x l ns true ns') (ht : Tab B p ds ns' (sizeL L + sizeL (V.take i) + sizeE x) la w') : Adds B p ds L V la (i + 1) ns' w' := by
  have e1 : V.take (i + 1) = V.take i ++ [x] := by rw [List.take_add_one, hx]; rfl
  refine ⟨?_, fun e => ?_, ?_⟩
  · rw [e1, sizeL_append, ← Nat.add_assoc]
    simpa [sizeL] using ht
  · rw [puts_mem hp e, h.mem e, e1, List.mem_append, List.mem_singleton]
    constructor
    · rintro ((h | h) | ⟨-, h⟩)
      · exact .inl h
      · exact .inr (.inl h)
      · exact .inr (.inr h)
    · rintro (h | h | h)
      · exact .inl (.inl h)
      · exact .inl (.inr h)
      · exact .inr ⟨rfl, h⟩
  · rcases hp with ⟨h0, -⟩ | ⟨-, -, -, P, Q, a, hc, rfl, -⟩
    · cases h0
    · have := h.len
      rw [hc.all] at this
      simp at this ⊢
      omega
theorem Adds.fresh {B p la i first : Nat} {ds : List Int} {L : List Ent} {ws : List Wr} {ns : List Nd} {w : World} (h : Adds B p ds L (vers first ws) la i ns w) (hla : la < first) (ho : ∀ e ∈ L, e.s ≤ (la : Int)) (x : Wr) : ∀ y ∈ ns, ¬ same2 y.e (verE x (first + i)) := by
  intro y hy hs
  have h2 : y.e.s = ((first + i : Nat) : Int) := hs.2
  rcases (h.mem y.e).1 (mem_entsOf.2 ⟨y, hy, rfl⟩) with h1 | h1
  · have := ho _ h1
    omega
  · have := vers_take h1
    omega
theorem Adds.done {B p la first : Nat} {ds : List Int} {L : List Ent} {ws : List Wr} {ns : List Nd} {w : World} (h : Adds B p ds L (vers first ws) la ws.length ns w) (hla : la < first) (ho : ∀ e ∈ L, e.s ≤ (la : Int)) (hpos : 1 ≤ ws.length) : Mem B p ds (L ++ vers first ws) (first + ws.length - 1) ns (w.setCell ⟨p, 15, none⟩ (.int .u64 ((first + ws.length - 1 : Nat) : Int))) := by
  have e : (vers first ws).take ws.length = vers first ws := List.take_of_length_le (by rw [vers_length]; exact Nat.le_refl _)
  refine ⟨?_, fun x => ?_, ?_, fun x hx => ?_⟩
  · have := h.tab.setLast (first + ws.length - 1)
    rw [e, ← sizeL_append] at this
    exact this
  · rw [h.mem x, e, List.mem_append]
  · rw [h.len, List.length_append, vers_length]
  · rcases List.mem_append.1 hx with hx | hx
    · have := ho x hx
      omega
    · obtain ⟨i, hi, rfl⟩ := vers_mem hx
      simp only [verE]
      omega
end Go.Proofs.Ythaalhigmihijab
