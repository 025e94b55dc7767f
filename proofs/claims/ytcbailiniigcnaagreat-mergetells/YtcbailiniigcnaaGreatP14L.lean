/- merge, plain: what is there at a number. -/
import Derived.Test.YtcbailiniigcnaaGreatP14
namespace Go.Proofs.YtcbailiniigcnaaGreat
open Go.Lib Go.RowKit

theorem ltE_fall {a b : Ent} (h : ltE a b) (hk : a.k = b.k) : b.s < a.s := by
  unfold ltE at h
  rw [hk, cmpE_same] at h
  unfold cmpU at h
  split at h
  · assumption
  · split at h <;> omega
theorem ltE_near {a b c : Ent} (h1 : ltE a b) (h2 : ltE b c) (hk : a.k = c.k) : b.k = c.k := by
  unfold ltE at h1 h2
  have h3 := cmpE_swap b.k b.s c.k c.s
  unfold cmpE at h1 h2
  by_cases p : compareBytes b.k.data.toList c.k.data.toList = 0
  · exact bytes_ext (cb_eq _ _ p)
  · rw [if_neg p] at h2
    rw [hk] at h1
    by_cases q : compareBytes c.k.data.toList b.k.data.toList = 0
    · exact (bytes_ext (cb_eq _ _ q)).symm
    · rw [if_neg q, cb_swap b.k.data.toList c.k.data.toList] at h1
      omega
/-- That of the two whose key is not the same has the lesser key. -/
theorem ltE_key {a b : Ent} (h : ltE a b) (hk : a.k ≠ b.k) : compareBytes a.k.data.toList b.k.data.toList = -1 := by
  unfold ltE cmpE at h
  split at h
  · rename_i e
    exact absurd (bytes_ext (cb_eq _ _ e)) hk
  · exact h
def hideB (seq : Int) (p : Option Ent) (e : Ent) : Bool := decide (seq < e.s) || (match p with | some y => decide (y.k = e.k) && decide (y.s ≤ seq) | none => false) || decide (e.n = 2)
theorem latS_cons (seq : Int) (p : Option Ent) (e : Ent) (r : List Ent) : latS seq p (e :: r) = (if hideB seq p e = true then [] else [(e.k, e.v)]) ++ latS seq (some e) r := rfl
theorem hideB_no {seq : Int} {p : Option Ent} {e : Ent} : ¬ hideB seq p e = true ↔ e.s ≤ seq ∧ e.n ≠ 2 ∧ ∀ y, p = some y → y.k = e.k → seq < y.s := by
  unfold hideB
  cases p with
  | none =>
    simp only [Bool.or_false, Bool.or_eq_true, decide_eq_true_eq, not_or, Int.not_lt]
    exact ⟨fun h => ⟨h.1, h.2, fun y hy => by cases hy⟩, fun h => ⟨h.1, h.2.1⟩⟩
  | some y =>
    simp only [Bool.or_eq_true, decide_eq_true_eq, Bool.and_eq_true, not_or, Int.not_lt, not_and, Int.not_le]
    exact ⟨fun h => ⟨h.1.1, h.2, fun z hz => by obtain rfl : y = z := Option.some.inj hz; exact h.1.2⟩, fun h => ⟨⟨h.1, h.2.2 y rfl⟩, h.2.1⟩⟩
theorem latS_length (seq : Int) : ∀ (l : List Ent) (p : Option Ent), (latS seq p l).length ≤ l.length
  | [], _ => Nat.le_refl _
  | e :: r, p => by
    have := latS_length seq r (some e)
    rw [latS_cons, List.length_append, List.length_cons]
    split <;> simp <;> omega
theorem latE_length (seq : Int) (l : List Ent) : (latE seq l).length ≤ l.length := latS_length seq l none
/-- e is what is there of its key up to a number. -/
def There (seq : Int) (l : List Ent) (e : Ent) : Prop := e ∈ l ∧ e.s ≤ seq ∧ e.n ≠ 2 ∧ ∀ y ∈ l, y.k = e.k → y.s ≤ seq → y.s ≤ e.s
theorem latS_mem (seq : Int) : ∀ (l : List Ent) (p : Option Ent), (p.toList ++ l).Pairwise ltE → ∀ q, q ∈ latS seq p l ↔ ∃ e, There seq l e ∧ q = (e.k, e.v) ∧ ∀ y, p = some y → y.k = e.k → seq < y.s
  | [], p, _, q => by
    constructor
    · intro h; cases h
    · rintro ⟨e, ⟨h, -⟩, -⟩; cases h
  | e :: r, p, hs, q => by
    have hs2 : (e :: r).Pairwise ltE := (List.pairwise_append.1 hs).2.1
    have hpe : ∀ y, p = some y → ltE y e ∧ ∀ f ∈ r, ltE y f := fun y hy => by
      have h3 := (List.pairwise_append.1 hs).2.2 y (by rw [hy]; simp)
      exact ⟨h3 e (by simp), fun f hf => h3 f (List.mem_cons_of_mem _ hf)⟩
    have her := (List.pairwise_cons.1 hs2).1
    have ih := latS_mem seq r (some e) hs2 q
    rw [latS_cons, List.mem_append, ih]
    constructor
    · rintro (h | ⟨f, ⟨hf, h1, h2, h3⟩, hq, h4⟩)
      · split at h
        · cases h
        · rename_i hn
          rw [List.mem_singleton] at h
          obtain ⟨n1, n3, n2⟩ := hideB_no.1 hn
          refine ⟨e, ⟨by simp, n1, n3, fun y hy hk hys => ?_⟩, h, n2⟩
          rcases List.mem_cons.1 hy with rfl | hy
          · exact Int.le_refl _
          · have := ltE_fall (her y hy) hk.symm
            omega
      · refine ⟨f, ⟨List.mem_cons_of_mem _ hf, h1, h2, fun y hy hk hys => ?_⟩, hq, fun y hy hk => ?_⟩
        · rcases List.mem_cons.1 hy with rfl | hy
          · have := h4 y rfl hk
            omega
          · exact h3 y hy hk hys
        · obtain ⟨g1, g2⟩ := hpe y hy
          have hek := ltE_near g1 (her f hf) hk
          have := h4 e rfl hek
          have := ltE_fall g1 (hk.trans hek.symm)
          omega
    · rintro ⟨f, ⟨hf, h1, h2, h3⟩, hq, h4⟩
      rcases List.mem_cons.1 hf with rfl | hfr
      · refine .inl ?_
        rw [if_neg (hideB_no.2 ⟨h1, h2, h4⟩), hq]
        simp
      · refine .inr ⟨f, ⟨hfr, h1, h2, fun y hy => h3 y (List.mem_cons_of_mem _ hy)⟩, hq, fun y hy hk => ?_⟩
        obtain rfl : e = y := Option.some.inj hy
        have := ltE_fall (her f hfr) hk
        by_cases hle : e.s ≤ seq
        · have := h3 e (by simp) hk hle
          omega
        · omega
theorem latE_mem {seq : Int} {l : List Ent} (h : l.Pairwise ltE) (q : ByteArray × ByteArray) : q ∈ latE seq l ↔ ∃ e, There seq l e ∧ q = (e.k, e.v) := by
  unfold latE
  rw [latS_mem seq l none (by simpa using h)]
  constructor
  · rintro ⟨e, h1, h2, -⟩; exact ⟨e, h1, h2⟩
  · rintro ⟨e, h1, h2⟩; exact ⟨e, h1, h2, fun y hy => by cases hy⟩
theorem latE_two {a b : Int} {l : List Ent} (h : l.Pairwise ltE) (hab : a ≤ b) {q : ByteArray × ByteArray} (hq : q ∈ latE a l) (hn : ∀ e ∈ l, ¬ (e.k = q.1 ∧ a < e.s ∧ e.s ≤ b)) : q ∈ latE b l := by
  rw [latE_mem h] at hq ⊢
  obtain ⟨e, ⟨h1, h2, h3, h4⟩, rfl⟩ := hq
  refine ⟨e, ⟨h1, by omega, h3, fun y hy hk hys => ?_⟩, rfl⟩
  by_cases hya : y.s ≤ a
  · exact h4 y hy hk hya
  · exact absurd ⟨hk, by omega, hys⟩ (hn y hy)
def ltQ (p q : ByteArray × ByteArray) : Prop := compareBytes p.1.data.toList q.1.data.toList = -1
theorem latS_rise (seq : Int) : ∀ (l : List Ent) (p : Option Ent), (p.toList ++ l).Pairwise ltE → (latS seq p l).Pairwise ltQ
  | [], _, _ => List.Pairwise.nil
  | e :: r, p, hs => by
    have hs2 : (e :: r).Pairwise ltE := (List.pairwise_append.1 hs).2.1
    have her := (List.pairwise_cons.1 hs2).1
    have ih := latS_rise seq r (some e) hs2
    rw [latS_cons]
    split
    · rw [List.nil_append]; exact ih
    · rename_i hn
      obtain ⟨n1, -, -⟩ := hideB_no.1 hn
      rw [List.singleton_append, List.pairwise_cons]
      refine ⟨fun q hq => ?_, ih⟩
      obtain ⟨f, ⟨hf, -⟩, rfl, h4⟩ := (latS_mem seq r (some e) hs2 q).1 hq
      refine ltE_key (her f hf) fun hk => ?_
      have := h4 e rfl hk
      omega
theorem latE_rise {seq : Int} {l : List Ent} (h : l.Pairwise ltE) : (latE seq l).Pairwise ltQ := latS_rise seq l none (by simpa using h)
theorem latE_step {seq : Int} {l : List Ent} (h : l.Pairwise ltE) {i : Nat} (h0 : 0 < i) (hi : i < (latE seq l).length) : compareBytes ((latE seq l)[i - 1]'(by omega)).1.data.toList ((latE seq l)[i]).1.data.toList = -1 :=
  List.pairwise_iff_getElem.1 (latE_rise h) (i - 1) i (by omega) hi (by omega)
end Go.Proofs.YtcbailiniigcnaaGreat
