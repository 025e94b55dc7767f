/- An edit that is laid is read as it was (plain). -/
import Derived.Test.YtlecffpjcjlabaaGreatJK
import Derived.Test.YtlecffpjcjlabaaGreatJG
namespace Go.Proofs.YtlecffpjcjlabaaGreat
open Go.RowKit Go.Shelf

theorem rdV_laid (v : Nat) (rest : List UInt8) (h : v < 18446744073709551616) : rdV (Lib.uvarint v ++ rest) 0 = (v, rest, 0) := rdV_ok (decV_laid v rest h)
theorem rdI_laid (v : Nat) (rest : List UInt8) (h : v ≤ 4611686018427387904) : rdI (Lib.uvarint v ++ rest) 0 = (v, rest, 0) := by
  unfold rdI
  rw [rdV_laid v rest (by omega), if_neg (by simp; omega)]
theorem rdC_laid (v : Nat) (rest : List UInt8) (h : v ≤ 10000) : rdC 10000 (Lib.uvarint v ++ rest) 0 = (v, rest, 0) := rdC_ok (decC_laid 10000 v rest (by omega) (by omega))
theorem rdT_laid (s : ByteArray) (rest : List UInt8) (h : s.size ≤ 300) : rdT 300 (Lib.uvarint s.size ++ (s.data.toList ++ rest)) 0 = (s.data.toList, rest, 0) := by
  have hl := len_data' s
  have := decT_laid 300 s.data.toList rest (by omega) (by omega)
  rw [hl] at this
  exact rdT_ok this
/-- May a table be laid and read? -/
def Tb.Fits (t : Tb) : Prop := 0 ≤ t.n ∧ t.n ≤ 4611686018427387904 ∧ 0 ≤ t.lv ∧ t.lv ≤ 4611686018427387904 ∧ 0 ≤ t.sz ∧ t.sz ≤ 4611686018427387904 ∧ t.f.size ≤ 300 ∧ t.l.size ≤ 300
theorem rdTb_laid (t : Tb) (rest : List UInt8) (h : t.Fits) : rdTb (putT t ++ rest) 0 = (t, rest, 0) := by
  obtain ⟨n, lv, sz, f, l⟩ := t
  obtain ⟨h1, h2, h3, h4, h5, h6, h7, h8⟩ := h
  simp only at h1 h2 h3 h4 h5 h6 h7 h8
  obtain ⟨n, rfl⟩ : ∃ m : Nat, n = (m : Int) := ⟨n.toNat, by omega⟩
  obtain ⟨lv, rfl⟩ : ∃ m : Nat, lv = (m : Int) := ⟨lv.toNat, by omega⟩
  obtain ⟨sz, rfl⟩ : ∃ m : Nat, sz = (m : Int) := ⟨sz.toNat, by omega⟩
  have e : putT ⟨n, lv, sz, f, l⟩ ++ rest = Lib.uvarint n ++ (Lib.uvarint lv ++ (Lib.uvarint sz ++ (Lib.uvarint f.size ++ (f.data.toList ++ (Lib.uvarint l.size ++ (l.data.toList ++ rest)))))) := by
    simp [putT, vars, ntexts]
  rw [e]
  unfold rdTb
  rw [rdI_laid n _ (by omega)]
  simp only
  rw [rdI_laid lv _ (by omega)]
  simp only
  rw [rdI_laid sz _ (by omega)]
  simp only
  rw [rdT_laid f _ h7]
  simp only
  rw [rdT_laid l _ h8]
theorem rdTs_laid : ∀ (ts acc : List Tb) (rest : List UInt8), (∀ t ∈ ts, t.Fits) → rdTs ts.length acc (putTs ts ++ rest) = (acc ++ ts, rest, 0)
  | [], acc, rest, _ => by simp [rdTs, putTs]
  | t :: ts, acc, rest, h => by
    have e : putTs (t :: ts) ++ rest = putT t ++ (putTs ts ++ rest) := by simp [putTs]
    rw [e, List.length_cons]
    unfold rdTs
    rw [rdTb_laid t _ (h t (by simp)), if_neg (by simp)]
    simp only
    rw [rdTs_laid ts _ rest (fun x hx => h x (List.mem_cons_of_mem _ hx)), List.append_assoc]
    rfl
theorem rdIs_laid : ∀ (ks acc : List Int) (rest : List UInt8), (∀ k ∈ ks, 0 ≤ k ∧ k ≤ 4611686018427387904) → rdIs ks.length acc (putI ks ++ rest) = (acc ++ ks, rest, 0)
  | [], acc, rest, _ => by simp [rdIs, putI]
  | k :: ks, acc, rest, h => by
    obtain ⟨h1, h2⟩ := h k (by simp)
    obtain ⟨m, rfl⟩ : ∃ m : Nat, k = (m : Int) := ⟨k.toNat, by omega⟩
    have e : putI ((m : Int) :: ks) ++ rest = Lib.uvarint m ++ (putI ks ++ rest) := by simp [putI, vars]
    rw [e, List.length_cons]
    unfold rdIs
    rw [rdI_laid m _ (by omega), if_neg (by simp)]
    simp only
    rw [rdIs_laid ks _ rest (fun x hx => h x (List.mem_cons_of_mem _ hx)), List.append_assoc]
    rfl
/-- May an edit be laid and read? -/
def Ed.Fits (e : Ed) : Prop := 0 ≤ e.log ∧ e.log ≤ 4611686018427387904 ∧ 0 ≤ e.next ∧ e.next ≤ 4611686018427387904 ∧ e.seq < 18446744073709551616 ∧ e.add.length ≤ 10000 ∧ e.drop.length ≤ 10000 ∧ (∀ t ∈ e.add, t.Fits) ∧ ∀ k ∈ e.drop, 0 ≤ k ∧ k ≤ 4611686018427387904
theorem getP_laid (e : Ed) (h : e.Fits) : getP (putE e) = (e, 0) := by
  obtain ⟨log, next, seq, add, drop⟩ := e
  obtain ⟨h1, h2, h3, h4, h5, h6, h7, h8, h9⟩ := h
  simp only at h1 h2 h3 h4 h5 h6 h7 h8 h9
  obtain ⟨log, rfl⟩ : ∃ m : Nat, log = (m : Int) := ⟨log.toNat, by omega⟩
  obtain ⟨next, rfl⟩ : ∃ m : Nat, next = (m : Int) := ⟨next.toNat, by omega⟩
  have e : putE ⟨log, next, seq, add, drop⟩ = Lib.uvarint log ++ (Lib.uvarint next ++ (Lib.uvarint seq ++ (Lib.uvarint add.length ++ (putTs add ++ (Lib.uvarint drop.length ++ (putI drop ++ [])))))) := by
    simp [putE, vars]
  rw [e]
  unfold getP
  rw [rdI_laid log _ (by omega)]
  simp only
  rw [rdI_laid next _ (by omega)]
  simp only
  rw [rdV_laid seq _ h5]
  simp only
  have a1 : rdLT (Lib.uvarint add.length ++ (putTs add ++ (Lib.uvarint drop.length ++ (putI drop ++ [])))) 0 = (add, Lib.uvarint drop.length ++ (putI drop ++ []), 0) := by
    unfold rdLT
    rw [rdC_laid _ _ h6, if_neg (by simp)]
    simp only
    rw [rdTs_laid add [] _ h8]
    rfl
  have a2 : rdLI (Lib.uvarint drop.length ++ (putI drop ++ [])) 0 = (drop, [], 0) := by
    unfold rdLI
    rw [rdC_laid _ _ h7, if_neg (by simp)]
    simp only
    rw [rdIs_laid drop [] _ h9]
    rfl
  rw [a1]
  simp only
  rw [a2]
  rfl
theorem canB_fits {e : Ed} (h : e.Fits) : canB e = true := by
  obtain ⟨h1, h2, h3, h4, h5, h6, h7, h8, h9⟩ := h
  unfold canB
  rw [Bool.and_eq_true, Bool.and_eq_true, decide_eq_true_iff, List.all_eq_true, List.all_eq_true]
  refine ⟨⟨h1, h3⟩, fun t ht => decide_eq_true ?_, fun k hk => decide_eq_true (h9 k hk).1⟩
  have := h8 t ht
  unfold Tb.Fits at this
  omega
theorem TabOk.fits {next : Int} {t : Tb} (h : TabOk next t) (hn : next ≤ 100000000) : t.Fits := by
  unfold TabOk at h
  unfold Tb.Fits
  omega
/-- The edit of a right version may be laid and read. -/
theorem whole_fits {v : Vr} (h : RightV v) (hl : v.ts.length ≤ 10000) : (wholeE v).Fits := by
  obtain ⟨⟨h1, h2, h3, h4, h5⟩, ht, -⟩ := h
  exact ⟨h1, by show v.log ≤ _; omega, h3, by show v.next ≤ _; omega, by show v.seq < _; omega, hl, by show (0 : Nat) ≤ 10000; omega, fun t hh => (ht t hh).fits h4, fun k hk => by cases hk⟩
end Go.Proofs.YtlecffpjcjlabaaGreat
