/- Plain facts of frames: a text as a frame, the frames at the front of bytes; frames are found as they were, whatever is cut off. -/
import Derived.Test.YtlecffpjcjlabaaGreatXK1
import Derived.Test.YtlecffpjcjlabaaGreatC1
namespace Go.Proofs.YtlecffpjcjlabaaGreat

theorem be_beVal : ∀ (l : List UInt8), be (beVal l) l.length = l
  | [] => rfl
  | b :: l => by
    have hp : 0 < 256 ^ l.length := Nat.pow_pos (by omega)
    have hl := beVal_lt l
    have hb := b.toNat_lt
    rw [List.length_cons, be_succ, beVal_cons]
    have e1 : (b.toNat * 256 ^ l.length + beVal l) / 256 ^ l.length = b.toNat := by
      rw [Nat.mul_comm, Nat.mul_add_div hp, Nat.div_eq_of_lt hl, Nat.add_zero]
    have e2 : (b.toNat * 256 ^ l.length + beVal l) % 256 ^ l.length = beVal l := by
      rw [Nat.mul_comm, Nat.mul_add_mod, Nat.mod_eq_of_lt hl]
    rw [e1, e2, be_beVal l, Nat.mod_eq_of_lt hb]
    congr 1
    exact UInt8.ofNat_toNat
theorem be_inj {a b n : Nat} (ha : a < 256 ^ n) (hb : b < 256 ^ n) (h : be a n = be b n) : a = b := by
  rw [← beVal_be n a ha, ← beVal_be n b hb, h]
theorem beVal_inj {a b : List UInt8} (hl : a.length = b.length) (h : beVal a = beVal b) : a = b := by
  rw [← be_beVal a, ← be_beVal b, h, hl]

/-- A text as a frame. -/
def frm (s : List UInt8) : List UInt8 := be (s.length % 4294967296) 4 ++ (be (crc (be (s.length % 4294967296) 4 ++ s)) 4 ++ s)
def frames (l : List (List UInt8)) : List UInt8 := (l.map frm).flatten
theorem frm_length (s : List UInt8) : (frm s).length = 8 + s.length := by simp [frm, be_length]; omega
theorem frames_cons (s : List UInt8) (l : List (List UInt8)) : frames (s :: l) = frm s ++ frames l := by simp [frames]
theorem frames_snoc (l : List (List UInt8)) (s : List UInt8) : frames (l ++ [s]) = frames l ++ frm s := by simp [frames]
theorem frames_append (l m : List (List UInt8)) : frames (l ++ m) = frames l ++ frames m := by simp [frames]

/-- The text of the frame at the front, if it is whole. -/
def cutF (b : List UInt8) : Option (List UInt8) :=
  if b.length < 8 then none else
  if 16777216 < beVal (b.take 4) ∨ b.length - 8 < beVal (b.take 4) then none else
  if crc (b.take 4 ++ (b.drop 8).take (beVal (b.take 4))) = beVal ((b.drop 4).take 4) then some ((b.drop 8).take (beVal (b.take 4))) else none
theorem cutF_some {b s : List UInt8} (h : cutF b = some s) : 8 ≤ b.length ∧ beVal (b.take 4) ≤ 16777216 ∧ beVal (b.take 4) ≤ b.length - 8 ∧ s = (b.drop 8).take (beVal (b.take 4)) ∧ crc (b.take 4 ++ s) = beVal ((b.drop 4).take 4) := by
  unfold cutF at h
  split at h
  · cases h
  · split at h
    · cases h
    · split at h
      · have e := Option.some.inj h
        subst e
        refine ⟨by omega, by omega, by omega, rfl, by assumption⟩
      · cases h
theorem cutF_length {b s : List UInt8} (h : cutF b = some s) : s.length = beVal (b.take 4) ∧ 8 + s.length ≤ b.length := by
  obtain ⟨h1, h2, h3, h4, -⟩ := cutF_some h
  have : s.length = beVal (b.take 4) := by rw [h4, List.length_take, List.length_drop]; omega
  omega
theorem cutF_frm {b s : List UInt8} (h : cutF b = some s) : b = frm s ++ b.drop (8 + s.length) := by
  obtain ⟨h1, h2, h3, h4, h5⟩ := cutF_some h
  have hl := (cutF_length h).1
  have e1 : be (s.length % 4294967296) 4 = b.take 4 := by
    rw [hl, Nat.mod_eq_of_lt (by omega)]
    have := be_beVal (b.take 4)
    rwa [List.length_take, Nat.min_eq_left (by omega)] at this
  have e2 : be (crc (be (s.length % 4294967296) 4 ++ s)) 4 = (b.drop 4).take 4 := by
    rw [e1, h5]
    have := be_beVal ((b.drop 4).take 4)
    rwa [List.length_take, List.length_drop, Nat.min_eq_left (by omega)] at this
  unfold frm
  rw [e2, e1]
  have e3 : s = (b.drop 8).take s.length := by rw [hl]; exact h4
  rw [← List.drop_drop]
  rw [List.append_assoc, List.append_assoc]
  conv => rhs; rhs; rhs; lhs; rw [e3]
  rw [List.take_append_drop]
  rw [show List.drop 8 b = List.drop 4 (List.drop 4 b) by rw [List.drop_drop]]
  rw [List.take_append_drop, List.take_append_drop]
theorem cutF_of (s r : List UInt8) (hs : s.length ≤ 16777216) : cutF (frm s ++ r) = some s := by
  have hm : s.length % 4294967296 = s.length := Nat.mod_eq_of_lt (by omega)
  have t4 : (frm s ++ r).take 4 = be (s.length % 4294967296) 4 := by
    unfold frm
    rw [List.append_assoc, List.take_append_of_le_length (by rw [be_length]; omega), List.take_of_length_le (by rw [be_length]; omega)]
  have d4 : (frm s ++ r).drop 4 = be (crc (be (s.length % 4294967296) 4 ++ s)) 4 ++ (s ++ r) := by
    unfold frm
    rw [List.append_assoc, List.drop_append_of_le_length (by rw [be_length]; omega), List.drop_of_length_le (by rw [be_length]; omega), List.nil_append, List.append_assoc]
  have d8 : (frm s ++ r).drop 8 = s ++ r := by
    rw [show (8 : Nat) = 4 + 4 from rfl, ← List.drop_drop, d4, List.drop_append_of_le_length (by rw [be_length]; omega), List.drop_of_length_le (by rw [be_length]; omega), List.nil_append]
  have v4 : beVal (be (s.length % 4294967296) 4) = s.length := by rw [beVal_be 4 _ (by omega), hm]
  have hlen : (frm s ++ r).length = 8 + s.length + r.length := by rw [List.length_append, frm_length]
  unfold cutF
  rw [t4, v4, d4, d8, hlen, if_neg (by omega), if_neg (by omega)]
  have ts : (s ++ r).take s.length = s := by rw [List.take_append_of_le_length (Nat.le_refl _), List.take_length]
  rw [ts, List.take_append_of_le_length (by rw [be_length]; omega), List.take_of_length_le (by rw [be_length]; omega), beVal_be 4 _ (crc_lt _), if_pos rfl]
theorem cutF_cut (s r : List UInt8) (c : Nat) (hs : s.length ≤ 16777216) (hc : c < 8 + s.length) : cutF ((frm s ++ r).take c) = none := by
  have hlen : (frm s ++ r).length = 8 + s.length + r.length := by rw [List.length_append, frm_length]
  have hl : ((frm s ++ r).take c).length = c := by rw [List.length_take, hlen]; omega
  unfold cutF
  rw [hl]
  by_cases h8 : c < 8
  · rw [if_pos h8]
  · have t4 : ((frm s ++ r).take c).take 4 = be (s.length % 4294967296) 4 := by
      unfold frm
      rw [List.take_take, Nat.min_eq_left (by omega), List.append_assoc, List.take_append_of_le_length (by rw [be_length]; omega), List.take_of_length_le (by rw [be_length]; omega)]
    rw [if_neg h8, t4, beVal_be 4 _ (by omega), Nat.mod_eq_of_lt (by omega), if_pos (.inr (by omega))]

/-- The texts of the frames at the front, and how many bytes these have (n: how far one goes at most). -/
def scanN : Nat → List UInt8 → List (List UInt8) × Nat
  | 0, _ => ([], 0)
  | n + 1, b => match cutF b with
    | none => ([], 0)
    | some s => (s :: (scanN n (b.drop (8 + s.length))).1, 8 + s.length + (scanN n (b.drop (8 + s.length))).2)
def scanF (b : List UInt8) : List (List UInt8) × Nat := scanN b.length b
theorem scanN_none {b : List UInt8} (h : cutF b = none) (n : Nat) : scanN n b = ([], 0) := by
  cases n with
  | zero => rfl
  | succ n => unfold scanN; rw [h]
theorem scanN_more : ∀ (n m : Nat) (b : List UInt8), b.length ≤ n → b.length ≤ m → scanN n b = scanN m b
  | 0, m, b, h, _ => by
    have : b = [] := List.eq_nil_of_length_eq_zero (by omega)
    subst this
    rw [scanN_none (by simp [cutF]) m]
    rfl
  | n + 1, 0, b, _, h => by
    have : b = [] := List.eq_nil_of_length_eq_zero (by omega)
    subst this
    rw [scanN_none (by simp [cutF]) (n + 1)]
    rfl
  | n + 1, m + 1, b, hn, hm => by
    unfold scanN
    cases h : cutF b with
    | none => rfl
    | some s =>
      have hl := (cutF_length h).2
      have := scanN_more n m (b.drop (8 + s.length)) (by rw [List.length_drop]; omega) (by rw [List.length_drop]; omega)
      simp only [this]
theorem scanF_none {b : List UInt8} (h : cutF b = none) : scanF b = ([], 0) := scanN_none h _
theorem scanF_some {b s : List UInt8} (h : cutF b = some s) : scanF b = (s :: (scanF (b.drop (8 + s.length))).1, 8 + s.length + (scanF (b.drop (8 + s.length))).2) := by
  have hl := (cutF_length h).2
  unfold scanF
  obtain ⟨n, hn⟩ : ∃ n, b.length = n + 1 := ⟨b.length - 1, by omega⟩
  rw [hn]
  conv => lhs; unfold scanN
  rw [h]
  have := scanN_more n (b.drop (8 + s.length)).length (b.drop (8 + s.length)) (by rw [List.length_drop]; omega) (Nat.le_refl _)
  simp only [this]
theorem scanF_le : ∀ (n : Nat) (b : List UInt8), b.length ≤ n → (scanF b).2 ≤ b.length ∧ ((scanF b).1.length) * 8 ≤ b.length ∧ ∀ t ∈ (scanF b).1, t.length ≤ b.length
  | n, b, hn => by
    cases h : cutF b with
    | none => rw [scanF_none h]; simp
    | some s =>
      have hl := cutF_length h
      match n, hn with
      | 0, hn => omega
      | n + 1, hn =>
        have ih := scanF_le n (b.drop (8 + s.length)) (by rw [List.length_drop]; omega)
        rw [scanF_some h]
        rw [List.length_drop] at ih
        refine ⟨by simp only; omega, by simp only [List.length_cons]; omega, ?_⟩
        intro t ht
        rcases List.mem_cons.1 ht with rfl | ht
        · omega
        · have := ih.2.2 t ht; omega

theorem scan_cut : ∀ (l : List (List UInt8)) (c : Nat), (∀ s ∈ l, s.length ≤ 16777216) →
    ∃ k, k ≤ l.length ∧ scanF ((frames l).take c) = (l.take k, (frames (l.take k)).length) ∧ (frames (l.take k)).length ≤ c ∧ ((frames l).length ≤ c → k = l.length)
  | [], c, _ => ⟨0, Nat.le_refl _, by simp [frames]; exact scanF_none (by simp [cutF]), by simp [frames], fun _ => rfl⟩
  | s :: l, c, h => by
    have hs := h s List.mem_cons_self
    rw [frames_cons]
    by_cases hc : c < 8 + s.length
    · refine ⟨0, Nat.zero_le _, by rw [scanF_none (cutF_cut s _ c hs hc)]; simp [frames], by simp [frames], fun h2 => ?_⟩
      rw [List.length_append, frm_length] at h2
      omega
    · obtain ⟨k, h1, h2, h3, h4⟩ := scan_cut l (c - (8 + s.length)) (fun t ht => h t (List.mem_cons_of_mem _ ht))
      have ht : (frm s ++ frames l).take c = frm s ++ (frames l).take (c - (8 + s.length)) := by
        rw [List.take_append, List.take_of_length_le (by rw [frm_length]; omega), frm_length]
      refine ⟨k + 1, by simpa using h1, ?_, ?_, ?_⟩
      · rw [ht, scanF_some (cutF_of s _ hs)]
        have hd : (frm s ++ (frames l).take (c - (8 + s.length))).drop (8 + s.length) = (frames l).take (c - (8 + s.length)) := by
          rw [← frm_length, List.drop_left]
        rw [hd, h2, List.take_succ_cons, frames_cons, List.length_append, frm_length]
      · rw [List.take_succ_cons, frames_cons, List.length_append, frm_length]; omega
      · intro h5
        rw [List.length_append, frm_length] at h5
        have := h4 (by omega)
        simpa using this
theorem frames_take (l : List (List UInt8)) (k : Nat) : (frames l).take (frames (l.take k)).length = frames (l.take k) := by
  have e : frames l = frames (l.take k) ++ frames (l.drop k) := by rw [← frames_append, List.take_append_drop]
  rw [e, List.take_append_of_le_length (Nat.le_refl _), List.take_length]

/-- A sealed text. -/
def sealF (s : List UInt8) : List UInt8 := s ++ be (crc s) 4
/-- The text of a sealed one, and 0; 5: too short; 6 stands for another sum (the number of the error is the caller's). -/
def openOk (b : List UInt8) : Prop := 4 ≤ b.length ∧ crc (b.take (b.length - 4)) = beVal (b.drop (b.length - 4))
theorem open_seal (b : List UInt8) (h : 4 ≤ b.length) : sealF (b.take (b.length - 4)) = b ↔ crc (b.take (b.length - 4)) = beVal (b.drop (b.length - 4)) := by
  have hd : (b.drop (b.length - 4)).length = 4 := by rw [List.length_drop]; omega
  unfold sealF
  constructor
  · intro e
    have e1 : b.take (b.length - 4) ++ be (crc (b.take (b.length - 4))) 4 = b.take (b.length - 4) ++ b.drop (b.length - 4) := by rw [List.take_append_drop]; exact e
    rw [← List.append_cancel_left e1, beVal_be 4 _ (crc_lt _)]
  · intro e
    rw [e]
    have := be_beVal (b.drop (b.length - 4))
    rw [hd] at this
    rw [this, List.take_append_drop]
theorem seal_change (s : List UInt8) (k : Nat) (c : UInt8) (hk : k < (sealF s).length) (hc : c ≠ (sealF s)[k]) :
    crc (((sealF s).set k c).take s.length) ≠ beVal (((sealF s).set k c).drop s.length) := by
  have hv : beVal (be (crc s) 4) = crc s := beVal_be 4 _ (crc_lt _)
  by_cases h : k < s.length
  · have e1 : (sealF s).set k c = s.set k c ++ be (crc s) 4 := by unfold sealF; rw [List.set_append_left _ _ h]
    have hl : (s.set k c).length = s.length := by simp
    rw [e1, List.take_append_of_le_length (by omega), List.take_of_length_le (by omega), List.drop_append_of_le_length (by omega), List.drop_of_length_le (by omega), List.nil_append, hv]
    have e2 : (sealF s)[k] = s[k] := by simp [sealF, List.getElem_append_left h]
    rw [e2] at hc
    have es : s = s.take k ++ s[k] :: s.drop (k + 1) := by rw [List.getElem_cons_drop, List.take_append_drop]
    have ec : s.set k c = s.take k ++ c :: s.drop (k + 1) := by rw [List.set_eq_take_append_cons_drop, if_pos h]
    rw [ec]
    conv => rhs; rw [es]
    exact crc_change _ _ _ _ hc
  · have hk2 : k < s.length + 4 := by simpa [sealF, be_length] using hk
    have e1 : (sealF s).set k c = s ++ (be (crc s) 4).set (k - s.length) c := by unfold sealF; rw [List.set_append_right _ _ (by omega)]
    rw [e1, List.take_append_of_le_length (Nat.le_refl _), List.take_length, List.drop_left]
    intro e
    have e3 := beVal_inj (by simp) (hv.trans e)
    have hk3 : k - s.length < (be (crc s) 4).length := by rw [be_length]; omega
    have e4 : (be (crc s) 4)[k - s.length]? = ((be (crc s) 4).set (k - s.length) c)[k - s.length]? := congrArg (·[k - s.length]?) e3
    rw [List.getElem?_set_self hk3, List.getElem?_eq_getElem hk3] at e4
    have e5 : (sealF s)[k] = (be (crc s) 4)[k - s.length] := by simp [sealF, List.getElem_append_right (show s.length ≤ k by omega)]
    exact hc (by rw [e5]; exact (Option.some.inj e4).symm)
end Go.Proofs.YtlecffpjcjlabaaGreat
