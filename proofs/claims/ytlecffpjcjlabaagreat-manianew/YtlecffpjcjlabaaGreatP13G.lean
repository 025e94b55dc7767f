/- ManiAnew's edits: at most four tables stand, each edit applies (plain). -/
import Derived.Test.YtlecffpjcjlabaaGreatIM3
namespace Go.Proofs.YtlecffpjcjlabaaGreat
open Go.RowKit Go.Lib

theorem cb_more : ∀ l m : List UInt8, compareBytes (l ++ m) l ≠ -1
  | [], [] => by simp [compareBytes]
  | [], b :: m => by simp [compareBytes]
  | a :: l, m => by
    have ih := cb_more l m
    simpa [compareBytes] using ih
def tabN (name nz : ByteArray) (i : Nat) : Tb := ⟨5 + (i : Int), 0, 9, name, nz⟩
def edN (name nz : ByteArray) (i : Nat) : Ed := ⟨0, 10 + 2 * (i : Int), 0, [tabN name nz i], if 3 < i then [1 + (i : Int)] else []⟩
structure InvN (name nz : ByteArray) (i : Nat) (v : Vr) : Prop where
  mem : ∀ t, t ∈ v.ts ↔ ∃ j, j < i ∧ i < j + 5 ∧ t = tabN name nz j
  len : v.ts.length ≤ i ∧ v.ts.length ≤ 4
  next : v.next ≤ 12 + 3 * (i : Int)
  log : v.log = 2
  seq : v.seq = 0
section
variable {name nz : ByteArray} {i : Nat} {v : Vr}
theorem invN_start : InvN name nz 0 vStart := ⟨fun t => ⟨(fun h => by cases h), fun ⟨j, h, _⟩ => absurd h (Nat.not_lt_zero j)⟩, ⟨Nat.le_refl _, Nat.zero_le _⟩, by decide, rfl, rfl⟩
theorem InvN.left (h : InvN name nz i v) : ∀ t, t ∈ leftT v.ts (edN name nz i).drop ↔ ∃ j, j < i ∧ i + 1 < j + 5 ∧ t = tabN name nz j := fun t => by
  unfold leftT edN
  simp only
  rw [List.mem_filter, h.mem]
  by_cases h3 : 3 < i
  · rw [if_pos h3]
    constructor
    · rintro ⟨⟨j, h1, h2, rfl⟩, hc⟩
      refine ⟨j, h1, ?_, rfl⟩
      simp [tabN] at hc
      omega
    · rintro ⟨j, h1, h2, rfl⟩
      refine ⟨⟨j, h1, by omega, rfl⟩, ?_⟩
      simp [tabN]
      omega
  · rw [if_neg h3]
    constructor
    · rintro ⟨⟨j, h1, h2, rfl⟩, -⟩
      exact ⟨j, h1, by omega, rfl⟩
    · rintro ⟨j, h1, h2, rfl⟩
      exact ⟨⟨j, h1, by omega, rfl⟩, rfl⟩
theorem InvN.left_len (h : InvN name nz i v) : (leftT v.ts (edN name nz i).drop).length ≤ i ∧ (leftT v.ts (edN name nz i).drop).length ≤ 3 := by
  have hl := leftT_len v.ts (edN name nz i).drop
  have h1 := h.len
  refine ⟨by omega, ?_⟩
  by_cases h3 : 3 < i
  · have hm : tabN name nz (i - 4) ∈ v.ts := (h.mem _).2 ⟨i - 4, by omega, by omega, rfl⟩
    have : (leftT v.ts (edN name nz i).drop).length < v.ts.length := by
      unfold leftT
      refine List.length_filter_lt_length_iff_exists.2 ⟨_, hm, ?_⟩
      unfold edN tabN
      simp only
      rw [if_pos h3]
      simp
      omega
    omega
  · omega
theorem InvN.step (h : InvN name nz i v) (hr : RightV v) (hn : name.size ≤ 290) (hz : nz.size ≤ 291) (hc : cmpS nz name ≠ -1) (hi : i < 80) :
    Applies v (edN name nz i) ∧ InvN name nz (i + 1) (nextV v (edN name nz i)) ∧ (edN name nz i).Fits ∧ (nextV v (edN name nz i)).next ≤ 12 + 3 * (i : Int) := by
  have hp := (ordT_both (leftT v.ts (edN name nz i).drop ++ (edN name nz i).add)).1
  have hmem : ∀ t, t ∈ (nextV v (edN name nz i)).ts ↔ t ∈ leftT v.ts (edN name nz i).drop ∨ t = tabN name nz i := fun t => by
    show t ∈ ordT _ ↔ _
    rw [hp.mem_iff, List.mem_append]
    show _ ∨ t ∈ [tabN name nz i] ↔ _
    rw [List.mem_singleton]
  have hnx : (nextV v (edN name nz i)).next = max v.next (10 + 2 * (i : Int)) := rfl
  have hlg : (nextV v (edN name nz i)).log = max v.log 0 := rfl
  have hsq : (nextV v (edN name nz i)).seq = max v.seq 0 := rfl
  have h1 := h.next
  have h2 := h.log
  have h3 := h.seq
  have hb := hr.1
  have hInv : InvN name nz (i + 1) (nextV v (edN name nz i)) := by
    refine ⟨fun t => ?_, ?_, by rw [hnx]; omega, by rw [hlg]; omega, by rw [hsq]; omega⟩
    · rw [hmem, h.left]
      constructor
      · rintro (⟨j, a, b, rfl⟩ | rfl)
        · exact ⟨j, by omega, b, rfl⟩
        · exact ⟨i, by omega, by omega, rfl⟩
      · rintro ⟨j, a, b, rfl⟩
        by_cases hj : j = i
        · subst hj; exact .inr rfl
        · exact .inl ⟨j, by omega, b, rfl⟩
    · have hll := h.left_len
      have : (nextV v (edN name nz i)).ts.length = (leftT v.ts (edN name nz i).drop).length + 1 := by
        show (ordT _).length = _
        rw [hp.length_eq, List.length_append]
        rfl
      omega
  refine ⟨⟨fun n hn' => ?_, ⟨by rw [hlg]; omega, by rw [hlg]; omega, by rw [hnx]; omega, by rw [hnx]; omega, by rw [hsq]; omega⟩, fun t ht => ?_, ?_⟩, hInv, ?_, by rw [hnx]; omega⟩
  · unfold edN at hn'
    simp only at hn'
    split at hn'
    · rw [List.mem_singleton] at hn'
      subst hn'
      exact there_iff.2 ⟨tabN name nz (i - 4), (h.mem _).2 ⟨i - 4, by omega, by omega, rfl⟩, by unfold tabN; simp; omega⟩
    · cases hn'
  · rcases (hmem t).1 ht with ht | rfl
    · have := hr.2.1 t (List.mem_filter.1 ht).1
      unfold TabOk at this ⊢
      rw [hnx]
      omega
    · unfold TabOk tabN
      rw [hnx]
      simp only
      refine ⟨by omega, by omega, by omega, by omega, by omega, by omega, hc, by omega, by omega⟩
  · refine (hp.pairwise_iff (fun h => TwoOk.symm h)).2 ?_
    rw [List.pairwise_append]
    refine ⟨hr.2.2.sublist List.filter_sublist, List.pairwise_singleton _ _, fun a ha b hb' => ?_⟩
    have hb2 : b = tabN name nz i := List.mem_singleton.1 hb'
    subst hb2
    obtain ⟨j, a1, a2, rfl⟩ := (h.left a).1 ha
    refine ⟨?_, fun _ hlv => ?_⟩
    · unfold tabN; simp; omega
    · unfold tabN at hlv; simp at hlv
  · refine ⟨by show (0 : Int) ≤ 0; omega, by show (0 : Int) ≤ _; omega, by show (0 : Int) ≤ 10 + 2 * (i : Int); omega, by show 10 + 2 * (i : Int) ≤ _; omega, by show 0 < _; omega, by show 1 ≤ 10000; omega, ?_, fun t ht => ?_, fun k hk => ?_⟩
    · unfold edN; simp only; split <;> simp
    · have : t = tabN name nz i := List.mem_singleton.1 ht
      subst this
      unfold Tb.Fits tabN
      simp only
      omega
    · unfold edN at hk
      simp only at hk
      split at hk
      · rw [List.mem_singleton] at hk; omega
      · cases hk
theorem InvN.up (h : InvN name nz i v) (hn : v.next ≤ 11 + 3 * (i : Int)) : InvN name nz i v.up := ⟨h.mem, h.len, by show v.next + 1 ≤ _; omega, h.log, h.seq⟩
end
/-- Behind i rounds: the files, and what they make. -/
structure AnewI (name nz : ByteArray) (i : Nat) (s : St) (m : Mf) (rs : List (List UInt8)) (es : List Ed) : Prop where
  man : ManiC s m rs
  eds : EdsC es rs
  adds : adds es ≤ 4 + i
  num : es.length ≤ 1 + i
  inv : InvN name nz i m.v
  len : (frames rs).length ≤ 21000
section
variable {name nz : ByteArray} {i : Nat} {s : St} {m : Mf} {rs : List (List UInt8)} {es : List Ed}
theorem frames_one' (l : List UInt8) : (frames [l]).length = 8 + l.length := by rw [show frames [l] = frm l by simp [frames], frm_length]
theorem anewI_start : ∃ s1, openM (St.new 0) = (s1, 0, ⟨1, vStart⟩) ∧ AnewI name nz 0 s1 ⟨1, vStart⟩ [putE (wholeE vStart)] [wholeE vStart] := by
  obtain ⟨h1, h2⟩ := open_new calm_new (fun n => look_new n)
  refine ⟨_, Prod.ext rfl h1, h2, EdsC.one vStart_right.1 (Nat.zero_le _), Nat.zero_le _, Nat.le_refl _, invN_start, ?_⟩
  have := start_len
  exact Nat.le_trans this (by decide)
theorem AnewI.few (h : AnewI name nz i s m rs es) : m.v.ts.length ≤ 4 := h.inv.len.2
theorem AnewI.goodO (h : AnewI name nz i s m rs es) (hi : i ≤ 80) : GoodO 4000 s := by
  have hf := h.few
  have hn := h.inv.next
  have hup : RightV m.v.up := up_right h.man.right (by omega)
  have := wholeB_small hup (show m.v.ts.length ≤ 10000 by omega)
  have e : m.v.up.ts.length = m.v.ts.length := rfl
  exact goodO_calm (Nat.le_trans start_len (by decide)) h.man h.eds (by have := h.adds; omega) (by have := h.num; omega) (by have := h.len; omega) (by omega) (by omega)
theorem AnewI.step (h : AnewI name nz i s m rs es) (hn : name.size ≤ 290) (hz : nz.size ≤ 291) (hc : cmpS nz name ≠ -1) (hi : i < 80) :
    ∃ s' m' rs' es', addM s m false (edN name nz i) = (s', 0, m', false) ∧ AnewI name nz (i + 1) s' m' rs' es' ∧ m'.v.ts = (nextV m.v (edN name nz i)).ts ∧ m'.v.log = (nextV m.v (edN name nz i)).log ∧ m'.v.seq = (nextV m.v (edN name nz i)).seq := by
  obtain ⟨hap, hinv, hfit, hnx⟩ := h.inv.step h.man.right hn hz hc hi
  have hl := hinv.len.2
  have h1 : (edN name nz i).add.length = 1 := rfl
  obtain ⟨a1, a2, a3⟩ := add_calm h.man (canB_fits hfit) hap (by rw [h1]; omega) hfit.2.2.2.2.2.2.1 (by omega) (by omega)
  rcases a3 with ⟨b1, b2, b3⟩ | ⟨b1, b2, b3⟩
  · refine ⟨_, _, _, es ++ [edN name nz i], Prod.ext rfl (Prod.ext a1 (Prod.ext b2 a2)), ⟨b3, h.eds.more hfit, ?_, ?_, hinv, by omega⟩, rfl, rfl, rfl⟩
    · rw [adds_more, h1]; have := h.adds; omega
    · rw [List.length_append]; have := h.num; simp; omega
  · have hup : RightV (nextV m.v (edN name nz i)).up := up_right hap.2 (by omega)
    have hlu : (nextV m.v (edN name nz i)).up.ts.length ≤ 10000 := by show (nextV m.v (edN name nz i)).ts.length ≤ _; omega
    refine ⟨_, _, _, [wholeE (nextV m.v (edN name nz i)).up], Prod.ext rfl (Prod.ext a1 (Prod.ext b2 a2)), ⟨b3, EdsC.one hup hlu, ?_, ?_, hinv.up (by omega), ?_⟩, rfl, rfl, rfl⟩
    · show Go.Proofs.YtlecffpjcjlabaaGreat.adds [wholeE _] ≤ _
      unfold Go.Proofs.YtlecffpjcjlabaaGreat.adds
      show (nextV m.v (edN name nz i)).ts.length + 0 ≤ _
      omega
    · show 1 ≤ _; omega
    · have := wholeB_small hup hlu
      have e : (nextV m.v (edN name nz i)).up.ts.length = (nextV m.v (edN name nz i)).ts.length := rfl
      rw [e] at this
      exact Nat.le_trans this (by omega)
end
/-- What is asked of Add. -/
theorem AnewI.next {name nz : ByteArray} {i : Nat} {s : St} {m : Mf} {rs : List (List UInt8)} {es : List Ed} (h : AnewI name nz i s m rs es) (hn : name.size ≤ 290) (hz : nz.size ≤ 291) (hc : cmpS nz name ≠ -1) (hi : i < 80) :
    Applies m.v (edN name nz i) ∧ (edN name nz i).Ok ∧ (nextV m.v (edN name nz i)).ts.length ≤ 4 ∧ (wholeB (nextV m.v (edN name nz i)).up).length ≤ 2698 ∧ (putE (edN name nz i)).length ≤ 720 ∧ WayV m.v ∧ m.num < 100000000 := by
  obtain ⟨hap, hinv, hfit, hnx⟩ := h.inv.step h.man.right hn hz hc hi
  have hl := hinv.len.2
  have hup : RightV (nextV m.v (edN name nz i)).up := up_right hap.2 (by omega)
  have hw := wholeB_small hup (show (nextV m.v (edN name nz i)).ts.length ≤ 10000 by omega)
  have e : (nextV m.v (edN name nz i)).up.ts.length = (nextV m.v (edN name nz i)).ts.length := rfl
  rw [e] at hw
  have hp := putE_len3 _ hfit
  have h1 : (edN name nz i).add.length = 1 := rfl
  have h2 : (edN name nz i).drop.length ≤ 1 := by unfold edN; simp only; split <;> simp
  have hft := fits_tabs hfit
  obtain ⟨f1, f2, f3, f4, f5, f6, f7, -, -⟩ := hfit
  exact ⟨hap, ⟨by omega, by omega, f5, f6, f7, hft.1, hft.2⟩, hl, by omega, by omega, .inr h.man.right, h.man.num⟩
theorem two_names {a b : List UInt8} (hab : bytesBefore a b = true) : ∀ l : List (List UInt8), (∀ n, n ∈ l ↔ n = a ∨ n = b) → (l.Pairwise fun x y => bytesBefore x y = true) → l = [a, b]
  | [], hm, _ => absurd ((hm a).2 (.inl rfl)) (by simp)
  | x :: l1, hm, hp => by
    have hne : a ≠ b := fun e => by rw [e, Go.WideAt.bytes_irrefl] at hab; cases hab
    have hba : bytesBefore b a = false := by
      cases e : bytesBefore b a with
      | false => rfl
      | true => have := Go.WideShapes.bytes_trans _ _ _ hab e; rw [Go.WideAt.bytes_irrefl] at this; cases this
    obtain ⟨hx, hp1⟩ := List.pairwise_cons.1 hp
    have hxa : x = a := by
      rcases (hm x).1 (by simp) with h | h
      · exact h
      · have ha : a ∈ x :: l1 := (hm a).2 (.inl rfl)
        rcases List.mem_cons.1 ha with h2 | h2
        · exact h2.symm
        · have := hx a h2
          rw [h, hba] at this
          cases this
    subst hxa
    have hb : b ∈ l1 := by
      rcases List.mem_cons.1 ((hm b).2 (.inr rfl)) with h2 | h2
      · exact absurd h2.symm hne
      · exact h2
    match l1, hb with
    | y :: l2, hb =>
      obtain ⟨hy, hp2⟩ := List.pairwise_cons.1 hp1
      have hxx : ∀ z, z ∈ y :: l2 → z = b := fun z hz => by
        rcases (hm z).1 (by simp only [List.mem_cons] at hz ⊢; exact .inr hz) with h | h
        · have := hx z hz
          rw [h, Go.WideAt.bytes_irrefl] at this
          cases this
        · exact h
      have hyb := hxx y (by simp)
      match l2 with
      | [] => rw [hyb]
      | z :: l3 =>
        have hzb := hxx z (by simp)
        have := hy z (by simp)
        rw [hyb, hzb, Go.WideAt.bytes_irrefl] at this
        cases this
theorem names_man {s : St} {m : Mf} {rs : List (List UInt8)} (h : ManiC s m rs) : s.names = [curN, nmM m.num] := by
  refine two_names (by unfold curN nmM; simp [bytesBefore]) _ (fun n => ?_) (names_rise h.calm)
  rw [names_mem h.calm]
  constructor
  · intro hs
    by_cases h1 : n = curN
    · exact .inl h1
    · by_cases h2 : n = nmM m.num
      · exact .inr h2
      · rw [h.rest n h1 h2] at hs
        cases hs
  · rintro (rfl | rfl)
    · rw [h.cur]; rfl
    · rw [h.file]; rfl
end Go.Proofs.YtlecffpjcjlabaaGreat
