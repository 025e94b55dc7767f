/- Two tables, apart; ranges in parts. -/
import Derived.Test.YthaalhigmihijabM5
namespace Go.Proofs.Ythaalhigmihijab
open Go.RowKit

section
variable {B p q sz la la' : Nat} {ds es : List Int} {ns ns' ms ms' : List Nd} {L L' : List Ent} {w w1 w2 : World}
theorem Tab.drlt (h : Tab B p ds ns sz la w) : ∀ v b, w.cell? ⟨p, 13, none⟩ = some v → ob v = some b → b < w.heap.size := by
  intro v b hv hb
  obtain ⟨v', h1, h2, -⟩ := h.dr
  rw [h1] at hv
  cases hv
  exact h2.lt b hb
theorem Tab.turned {F : List Nat} (h : Tab B p ds ns sz la w) (ht : Turn F w w1) (hF : ∀ k ∈ foot p ns, k ∉ F) (hv : ∀ v b, w.cell? ⟨p, 13, none⟩ = some v → ob v = some b → b ∉ F) : Tab B p ds ns sz la w1 := by
  have hp : p ∉ F := hF p (by simp [foot, hd])
  refine ⟨h.skp.turned ht hF, ?_, (ht.cell h.hdlt hp).trans h.size, (ht.cell h.hdlt hp).trans h.last⟩
  obtain ⟨v, h1, h2, h3⟩ := h.dr
  exact ⟨v, (ht.cell h.hdlt hp).trans h1, h2.kept fun k hk => ht.block k (h2.lt k hk) (hv v k h1 hk), h3⟩
theorem Mem.turned {F : List Nat} (h : Mem B p ds L la ns w) (ht : Turn F w w1) (hF : ∀ k ∈ foot p ns, k ∉ F) (hv : ∀ v b, w.cell? ⟨p, 13, none⟩ = some v → ob v = some b → b ∉ F) : Mem B p ds L la ns w1 :=
  ⟨h.tab.turned ht hF hv, h.mem, h.len, h.old⟩
/-- Two tables of the same versions, apart. -/
structure Two (B p q : Nat) (ds es : List Int) (L : List Ent) (la : Nat) (ns ms : List Nd) (w : World) : Prop where
  one : Mem B p ds L la ns w
  two : Mem B q es L la ms w
  sep : ∀ k ∈ foot p ns, k ∉ foot q ms
  drp : ∀ v b, w.cell? ⟨p, 13, none⟩ = some v → ob v = some b → b ∉ foot q ms
  drq : ∀ v b, w.cell? ⟨q, 13, none⟩ = some v → ob v = some b → b ∉ foot p ns
theorem Two.below (h : Two B p q ds es L la ns ms w) (hb : Below w.heap.size w w1) : Two B p q ds es L la ns ms w1 :=
  ⟨h.one.below hb, h.two.below hb, h.sep, fun v b hv => h.drp v b (by rw [← hv]; exact (hb.cell (p := ⟨p, 13, none⟩) h.one.tab.hdlt).symm), fun v b hv => h.drq v b (by rw [← hv]; exact (hb.cell (p := ⟨q, 13, none⟩) h.two.tab.hdlt).symm)⟩
theorem Two.mid (h : Two B p q ds es L la ns ms w) (t1 : Turn (foot p ns) w w1) : Mem B q es L la ms w1 :=
  h.two.turned t1 (fun k hk hn => h.sep k hn hk) h.drq
theorem Two.step (h : Two B p q ds es L la ns ms w) (h1 : Mem B p ds L' la' ns' w1) (t1 : Turn (foot p ns) w w1) (f1 : ∀ k ∈ foot p ns', k ∈ foot p ns ∨ w.heap.size ≤ k) (s1 : Same13 p w w1) (h2 : Mem B q es L' la' ms' w2) (t2 : Turn (foot q ms) w1 w2) (f2 : ∀ k ∈ foot q ms', k ∈ foot q ms ∨ w1.heap.size ≤ k) (s2 : Same13 q w1 w2) : Two B p q ds es L' la' ns' ms' w2 := by
  have hpq : p ∉ foot q ms := h.sep p (by simp [foot, hd])
  have hqp : q ∉ foot p ns := fun hn => h.sep q hn (by simp [foot, hd])
  have hsep : ∀ k ∈ foot p ns', k ∉ foot q ms := fun k hk hq => by
    rcases f1 k hk with h3 | h3
    · exact h.sep k h3 hq
    · have := h.two.tab.skp.lst.lt k hq
      omega
  have c13 : ∀ v, w1.cell? ⟨p, 13, none⟩ = some v → w.cell? ⟨p, 13, none⟩ = some v := fun v hv => Eq.trans (Eq.symm s1) hv
  have e13 : w2.cell? ⟨p, 13, none⟩ = w1.cell? ⟨p, 13, none⟩ := t2.cell h1.tab.hdlt hpq
  have eq13 : w2.cell? ⟨q, 13, none⟩ = w.cell? ⟨q, 13, none⟩ := Eq.trans s2 (t1.cell h.two.tab.hdlt hqp)
  refine ⟨h1.turned t2 hsep (fun v b hv => h.drp v b (c13 v hv)), h2, fun k hk hq => ?_, fun v b hv hb hq => ?_, fun v b hv hb hq => ?_⟩
  · rcases f2 k hq with h3 | h3
    · exact hsep k hk h3
    · have := h1.tab.skp.lst.lt k hk
      omega
  · rw [e13] at hv
    have hv' := c13 v hv
    rcases f2 b hq with h3 | h3
    · exact h.drp v b hv' hb h3
    · have := h.one.tab.drlt v b hv' hb
      have := t1.size
      omega
  · rw [eq13] at hv
    rcases f1 b hq with h3 | h3
    · exact h.drq v b hv hb h3
    · have := h.two.tab.drlt v b hv hb
      omega
theorem Two.same (h : Two B p q ds es L la ns ms w) : entsOf ns = entsOf ms :=
  sorted_ext _ _ (ents_ord h.one.tab.skp.right.ord) (ents_ord h.two.tab.skp.right.ord) (fun e => (h.one.mem e).trans (h.two.mem e).symm)
end
theorem less_trans {a b c : List UInt8} (h1 : Op.bytesLess a b = true) (h2 : Op.bytesLess b c = true) : Op.bytesLess a c = true := by
  rw [less_cb] at *
  exact decide_eq_true (cb_trans _ _ _ (of_decide_eq_true h1) (of_decide_eq_true h2))
theorem le_less {a b c : List UInt8} (h1 : Op.bytesLess b a = false) (h2 : Op.bytesLess b c = true) : Op.bytesLess a c = true := by
  rcases cb_vals a b with h | h | h
  · exact less_trans (by rw [less_cb]; exact decide_eq_true h) h2
  · rw [cb_eq a b h]
    exact h2
  · rw [less_cb] at h1
    have := cb_swap a b
    rw [h] at this
    exact absurd this (of_decide_eq_false h1)
theorem less_le {a b c : List UInt8} (h1 : Op.bytesLess a b = true) (h2 : Op.bytesLess c b = false) : Op.bytesLess a c = true := by
  rcases cb_vals b c with h | h | h
  · exact less_trans h1 (by rw [less_cb]; exact decide_eq_true h)
  · rw [← cb_eq b c h]
    exact h1
  · rw [less_cb] at h2
    have := cb_swap b c
    rw [h] at this
    exact absurd this (of_decide_eq_false h2)
theorem le_le {a b c : List UInt8} (h1 : Op.bytesLess b a = false) (h2 : Op.bytesLess c b = false) : Op.bytesLess c a = false := by
  cases h : Op.bytesLess c a with
  | false => rfl
  | true =>
    rw [less_le h h1] at h2
    cases h2
/-- A range in two parts is the range of all. -/
theorem range_parts {l : List Ent} (hl : l.Pairwise ltE) (f m t : ByteArray) (hm : m.size ≠ 0) (ht : t.size ≠ 0) (hfm : Op.bytesLess m.toList f.toList = false) (hmt : Op.bytesLess t.toList m.toList = false) :
    (l.filter fun e => !(Op.bytesLess e.k.toList f.toList) && (decide (m.size = 0) || Op.bytesLess e.k.toList m.toList)) ++ (l.filter fun e => !(Op.bytesLess e.k.toList m.toList) && (decide (t.size = 0) || Op.bytesLess e.k.toList t.toList)) = l.filter fun e => !(Op.bytesLess e.k.toList f.toList) && (decide (t.size = 0) || Op.bytesLess e.k.toList t.toList) := by
  simp only [hm, ht, decide_false, Bool.false_or]
  apply sorted_ext
  · rw [List.pairwise_append]
    refine ⟨hl.filter _, hl.filter _, fun x hx y hy => ?_⟩
    simp only [List.mem_filter, Bool.and_eq_true, Bool.not_eq_true'] at hx hy
    have hxy := less_le hx.2.2 hy.2.1
    rw [ByteArray.toList_eq, ByteArray.toList_eq, less_cb] at hxy
    have h1 := of_decide_eq_true hxy
    unfold ltE cmpE
    rw [if_neg (by rw [h1]; decide)]
    exact h1
  · exact hl.filter _
  · intro e
    simp only [List.mem_append, List.mem_filter, Bool.and_eq_true, Bool.not_eq_true']
    constructor
    · rintro (⟨h1, h2, h3⟩ | ⟨h1, h2, h3⟩)
      · exact ⟨h1, h2, less_le h3 hmt⟩
      · exact ⟨h1, le_le hfm h2, h3⟩
    · rintro ⟨h1, h2, h3⟩
      cases h4 : Op.bytesLess e.k.toList m.toList with
      | true => exact .inl ⟨h1, h2, rfl⟩
      | false => exact .inr ⟨h1, rfl, h3⟩
end Go.Proofs.Ythaalhigmihijab
