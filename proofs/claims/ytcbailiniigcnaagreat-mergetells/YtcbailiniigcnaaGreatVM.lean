/- What merge's calls are asked to tell; a first call. -/
import Derived.Test.YtcbailiniigcnaaGreatV3
import Derived.Test.YtcbailiniigcnaaGreatP14L
namespace Go.Proofs.YtcbailiniigcnaaGreat
open Go.RowKit Go.Lib

def cellsQ (l : List (ByteArray × ByteArray)) : List Value := l.flatMap fun q => [.string q.1, .string q.2]
/-- A row that lies in blocks of its own. -/
structure NewR (B : Nat) (w : World) (e : TypeId) (size : Nat) (v : Value) (n : Nat) (cs : List Value) : Prop where
  row : Row w e size v n cs
  new : ∀ b, ob v = some b → B ≤ b
/-- Right, and not long. -/
def Ent.Fine (e : Ent) : Prop := e.Ok ∧ e.Short
def SortedL (ls : List (List Ent)) : Prop := ∀ l ∈ ls, l.Pairwise ltE ∧ ∀ x ∈ l, x.Fine
def AllC : Prop := ∀ (a : Option Addr) (n cap : Nat) (ls : List (List Ent)) (w : World), LsAt w a n ls → n ≤ 8 → ls.flatten.length ≤ 50000 → SortedL ls →
  Calls Tryz.prog 8 #[.slice a n cap] w fun e w' => ∃ v, e = .returned v ∧ NewR w.heap.size w' 56 4 v (allE ls.flatten).length (cellsE (allE ls.flatten)) ∧ Below w.heap.size w w'
def LatestC : Prop := ∀ (seq : Int) (a : Option Addr) (n cap : Nat) (ls : List (List Ent)) (w : World), LsAt w a n ls → n ≤ 8 → ls.flatten.length ≤ 50000 → SortedL ls →
  Calls Tryz.prog 9 #[.int .u64 seq, .slice a n cap] w fun e w' => ∃ v, e = .returned v ∧ NewR w.heap.size w' 58 2 v (latE seq (allE ls.flatten)).length (cellsQ (latE seq (allE ls.flatten))) ∧ Below w.heap.size w w'
def CutC : Prop := ∀ (most : Int) (a : Option Addr) (cap : Nat) (l : List Ent) (w : World), EntsAt w.heap.size w a l.length l → l.length ≤ 50000 → l.Pairwise ltE → (∀ x ∈ l, x.Fine) →
  Calls Tryz.prog 16 #[.int .i64 most, .slice a l.length cap] w fun e w' => ∃ a' c, e = .returned (.slice a' (cutS most [] l).length c) ∧ LsAt w' a' (cutS most [] l).length (cutS most [] l) ∧ Below w.heap.size w w'

theorem cellsQ_length : ∀ l : List (ByteArray × ByteArray), (cellsQ l).length = l.length * 2
  | [] => rfl
  | q :: l => by
    have := cellsQ_length l
    unfold cellsQ at this ⊢
    rw [List.flatMap_cons, List.length_append, this]
    simp
    omega
theorem cellsQ_get : ∀ (l : List (ByteArray × ByteArray)) (i : Nat) (h : i < l.length), (cellsQ l)[i * 2]? = some (.string l[i].1) ∧ (cellsQ l)[i * 2 + 1]? = some (.string l[i].2)
  | q :: l, 0, h => ⟨rfl, rfl⟩
  | q :: l, i + 1, h => by
    obtain ⟨h1, h2⟩ := cellsQ_get l i (by simpa using h)
    have e : cellsQ (q :: l) = .string q.1 :: .string q.2 :: cellsQ l := rfl
    rw [e, List.getElem_cons_succ]
    constructor
    · rw [show (i + 1) * 2 = i * 2 + 1 + 1 by omega, List.getElem?_cons_succ, List.getElem?_cons_succ]; exact h1
    · rw [show (i + 1) * 2 + 1 = i * 2 + 1 + 1 + 1 by omega, List.getElem?_cons_succ, List.getElem?_cons_succ]; exact h2

def al1 : List Ent := [⟨⟨#[97]⟩, 3, 1, ⟨#[]⟩⟩]
def al2 : List Ent := [⟨⟨#[97]⟩, 1, 2, ⟨#[]⟩⟩, ⟨⟨#[98]⟩, 2, 1, ⟨#[]⟩⟩]
def al3 : List Ent := [⟨⟨#[97]⟩, 2, 0, ⟨#[]⟩⟩, ⟨⟨#[97]⟩, 1, 0, ⟨#[]⟩⟩, ⟨⟨#[98]⟩, 1, 0, ⟨#[]⟩⟩]
theorem al_lat : latE 2 (allE [al1, al2].flatten) = [(⟨#[98]⟩, ⟨#[]⟩)] := by decide
theorem al_cut : cutS 1 [] al3 = [al3.take 2, al3.drop 2] := by simp [cutS, al3]
theorem al_sort : SortedL [al1, al2] := by
  intro l hl
  simp only [List.mem_cons, List.not_mem_nil, or_false] at hl
  rcases hl with rfl | rfl
  · refine ⟨by unfold al1; simp, fun x hx => ?_⟩
    simp only [al1, List.mem_cons, List.not_mem_nil, or_false] at hx
    subst hx
    unfold Ent.Fine Ent.Short Ent.Ok maxLen
    decide
  · refine ⟨by unfold al2; simp [ltE]; rfl, fun x hx => ?_⟩
    simp only [al2, List.mem_cons, List.not_mem_nil, or_false] at hx
    rcases hx with rfl | rfl <;> (unfold Ent.Fine Ent.Short Ent.Ok maxLen; decide)
theorem al_sort3 : al3.Pairwise ltE := by
  unfold al3
  simp only [List.pairwise_cons, List.mem_cons, List.not_mem_nil, or_false, forall_eq_or_imp, forall_eq, List.Pairwise.nil, and_true, false_implies, implies_true]
  exact ⟨⟨rfl, rfl⟩, rfl⟩
theorem al_ok3 : ∀ x ∈ al3, x.Fine := by
  intro x hx
  simp only [al3, List.mem_cons, List.not_mem_nil, or_false] at hx
  rcases hx with rfl | rfl | rfl <;> (unfold Ent.Fine Ent.Short Ent.Ok maxLen; decide)
end Go.Proofs.YtcbailiniigcnaaGreat
