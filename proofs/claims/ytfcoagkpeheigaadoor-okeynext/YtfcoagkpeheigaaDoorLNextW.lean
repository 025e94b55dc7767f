/- The walk of statement OkeyNext. -/
import Derived.Test.YtfcoagkpeheigaaDoorK8
namespace Go.Proofs.YtfcoagkpeheigaaDoor
open Go.RowKit

theorem nxt_all : ∀ (s : List UInt8), nxt s = none → ∀ x ∈ s, x = 255
  | [], _ => by simp
  | c :: r, h => by
    rw [nxt] at h
    cases hr : nxt r with
    | some t => rw [hr] at h; simp at h
    | none =>
      rw [hr] at h
      have hc : c = 255 := by
        rcases Decidable.em (c = 255) with e | e
        · exact e
        · simp [e] at h
      intro x hx
      rcases List.mem_cons.1 hx with rfl | hx
      · exact hc
      · exact nxt_all r hr x hx
theorem u8_succ (c : UInt8) (h : c ≠ 255) : (c + 1).toNat = c.toNat + 1 := by
  have h1 := c.toNat_lt
  have h2 : c.toNat ≠ 255 := fun e => h (UInt8.toNat_inj.1 (by rw [e]; rfl))
  rw [UInt8.toNat_add]
  have : (1 : UInt8).toNat = 1 := rfl
  omega
theorem nxt_above (m : List UInt8) : ∀ (s t : List UInt8), nxt s = some t → Op.bytesLess (s ++ m) t = true
  | [], t, h => by simp [nxt] at h
  | c :: r, t, h => by
    rw [nxt] at h
    cases hr : nxt r with
    | some t' =>
      rw [hr] at h
      simp at h
      subst h
      have ih := nxt_above m r t' hr
      simp [Op.bytesLess, ih]
    | none =>
      rw [hr] at h
      by_cases hc : c = 255
      · simp [hc] at h
      · simp [hc] at h
        subst h
        have h1 : c < c + 1 := by rw [UInt8.lt_iff_toNat_lt, u8_succ c hc]; omega
        simp [Op.bytesLess, h1]
/-- Does o begin with s? -/
def starts (s o : List UInt8) : Prop := s.length ≤ o.length ∧ o.take s.length = s
theorem starts_cons (c : UInt8) (r o : List UInt8) (h : starts r o) : starts (c :: r) (c :: o) := by
  obtain ⟨h1, h2⟩ := h
  exact ⟨by simp; omega, by simp [h2]⟩
theorem low_of_full : ∀ (r o : List UInt8), (∀ x ∈ r, x = 255) → ¬ starts r o → Op.bytesLess o r = true
  | [], o, _, h => absurd ⟨by simp, by simp⟩ h
  | c :: r, [], _, _ => rfl
  | c :: r, d :: o, hr, h => by
    have hc : c = 255 := hr c (by simp)
    by_cases hd : d = c
    · subst hd
      have ih := low_of_full r o (fun x hx => hr x (by simp [hx])) (fun hs => h (starts_cons d r o hs))
      simp [Op.bytesLess, ih]
    · have h1 : d < c := by
        rw [UInt8.lt_iff_toNat_lt]
        have := d.toNat_lt
        have h2 : c.toNat = 255 := by rw [hc]; rfl
        have : d.toNat ≠ c.toNat := fun e => hd (UInt8.toNat_inj.1 e)
        omega
      simp [Op.bytesLess, h1]
theorem u8_tri (d c : UInt8) : d < c ∨ d = c ∨ c < d := by
  rw [UInt8.lt_iff_toNat_lt, UInt8.lt_iff_toNat_lt]
  rcases Nat.lt_trichotomy d.toNat c.toNat with h | h | h
  · exact .inl h
  · exact .inr (.inl (UInt8.toNat_inj.1 h))
  · exact .inr (.inr h)
theorem nxt_tight : ∀ (s t o : List UInt8), nxt s = some t → ¬ starts s o → Op.bytesLess o s = true ∨ Op.bytesLess o t = false
  | [], t, o, h, _ => by simp [nxt] at h
  | c :: r, t, [], _, _ => .inl rfl
  | c :: r, t, d :: o, h, hs => by
    rw [nxt] at h
    rcases u8_tri d c with hd | hd | hd
    · left; simp [Op.bytesLess, hd]
    · subst hd
      have hs' : ¬ starts r o := fun x => hs (starts_cons d r o x)
      have hirr : ¬ d < d := by rw [UInt8.lt_iff_toNat_lt]; omega
      cases hr : nxt r with
      | some t' =>
        rw [hr] at h
        simp at h
        subst h
        rcases nxt_tight r t' o hr hs' with h1 | h1
        · left; simp [Op.bytesLess, h1]
        · right; simp [Op.bytesLess, h1, hirr]
      | none =>
        left
        have := low_of_full r o (nxt_all r hr) hs'
        simp [Op.bytesLess, this]
    · right
      have hne : ¬ d < c := by rw [UInt8.lt_iff_toNat_lt] at *; omega
      have hne2 : (d == c) = false := by
        rw [beq_eq_false_iff_ne]
        intro e
        subst e
        rw [UInt8.lt_iff_toNat_lt] at hd
        omega
      cases hr : nxt r with
      | some t' =>
        rw [hr] at h
        simp at h
        subst h
        simp [Op.bytesLess, hne, hne2]
      | none =>
        rw [hr] at h
        by_cases hc : c = 255
        · simp [hc] at h
        · simp [hc] at h
          subst h
          have hge : ¬ d < c + 1 := by
            rw [UInt8.lt_iff_toNat_lt] at *
            have := u8_succ c hc
            omega
          cases o with
          | nil => simp [Op.bytesLess, hge]
          | cons x o => simp [Op.bytesLess, hge]

theorem take_data (B : ByteArray) (k : Nat) : (B.extract 0 k).data.toList = B.data.toList.take k := by
  rcases B with ⟨⟨l⟩⟩
  simp [ByteArray.data_extract]
theorem cat_data (a b : ByteArray) : (a ++ b).data.toList = a.data.toList ++ b.data.toList := by
  rcases a with ⟨⟨l⟩⟩
  rcases b with ⟨⟨m⟩⟩
  simp [ByteArray.data_append]

set_option maxHeartbeats 1000000 in
theorem okeyNext_some (s more other t : ByteArray) (h1 : s.size ≤ 300) (h2 : more.size ≤ 300) (h3 : other.size ≤ 300) (w : World) (hm : Max w)
    (ht : nxt s.data.toList = some t.data.toList) :
    Calls Tryd.prog 5 #[.string s, .string more, .string other] w fun e w' => e = .returned (.bool true) ∧ Below w.heap.size w w' := by
  have d1 : decide (300 < s.size) = false := by simpa using h1
  have d2 : decide (300 < more.size) = false := by simpa using h2
  have d3 : decide (300 < other.size) = false := by simpa using h3
  have hnx : Hid (∀ w' : World, Calls Tryd.prog 15 #[.string s] w' fun e w1 => e = .returned (.tuple #[.string t, .bool true]) ∧ Below w'.heap.size w' w1) := by
    intro w'
    have := next_any s w' (by omega)
    unfold nextVal at this
    rw [ht] at this
    exact this
  have l1 : Op.bytesLess (s ++ more).toList t.toList = true := by
    rw [Lib.toList_data, Lib.toList_data, cat_data]
    exact nxt_above _ _ _ ht
  have l2 : Op.bytesLess s.toList t.toList = true := by
    rw [Lib.toList_data, Lib.toList_data]
    have := nxt_above [] _ _ ht
    rwa [List.append_nil] at this
  have l3 : ¬ starts s.data.toList other.data.toList → Op.bytesLess other.toList s.toList = true ∨ Op.bytesLess other.toList t.toList = false := by
    rw [Lib.toList_data, Lib.toList_data, Lib.toList_data]
    exact nxt_tight _ _ _ ht
  have hz1 : s.data.toList.length = s.size := rfl
  have hz2 : other.data.toList.length = other.size := rfl
  by_cases hlen : s.size ≤ other.size
  · have hq : (s.size : Int) ≤ (other.size : Int) := by omega
    by_cases hbe : ((other.extract 0 s.size).toList == s.toList) = true
    · clear l3 ht
      go_enter Tryd.func5, Tryd.ntmps5
      go_wp2_with (first
      | (go_at_call 15; refine (hnx.out _).mono ?_; rintro e w1 ⟨rfl, hbel⟩; replace hm := hm.next hbel)
      | (go_at_call 9; refine (alive_any _ hm).mono ?_; rintro e w1 ⟨rfl, hb⟩; replace hbel := hbel.trans (hb.mono hbel.size)))
      go_ret
      exact ⟨rfl, hbel⟩
    · have hbf : ((other.extract 0 s.size).toList == s.toList) = false := by simpa using hbe
      have hns : ¬ starts s.data.toList other.data.toList := by
        rintro ⟨_, e⟩
        apply hbe
        rw [Lib.toList_data, Lib.toList_data, take_data, ← hz1, e]
        simp
      clear hbe ht
      rcases l3 hns with l3 | l3
      · go_enter Tryd.func5, Tryd.ntmps5
        go_wp2_with (first
      | (go_at_call 15; refine (hnx.out _).mono ?_; rintro e w1 ⟨rfl, hbel⟩; replace hm := hm.next hbel)
      | (go_at_call 9; refine (alive_any _ hm).mono ?_; rintro e w1 ⟨rfl, hb⟩; replace hbel := hbel.trans (hb.mono hbel.size)))
        go_ret
        exact ⟨rfl, hbel⟩
      · by_cases l4 : Op.bytesLess other.toList s.toList = true
        · go_enter Tryd.func5, Tryd.ntmps5
          go_wp2_with (first
      | (go_at_call 15; refine (hnx.out _).mono ?_; rintro e w1 ⟨rfl, hbel⟩; replace hm := hm.next hbel)
      | (go_at_call 9; refine (alive_any _ hm).mono ?_; rintro e w1 ⟨rfl, hb⟩; replace hbel := hbel.trans (hb.mono hbel.size)))
          go_ret
          exact ⟨rfl, hbel⟩
        · have l5 : Op.bytesLess other.toList s.toList = false := by simpa using l4
          clear l4
          go_enter Tryd.func5, Tryd.ntmps5
          go_wp2_with (first
      | (go_at_call 15; refine (hnx.out _).mono ?_; rintro e w1 ⟨rfl, hbel⟩; replace hm := hm.next hbel)
      | (go_at_call 9; refine (alive_any _ hm).mono ?_; rintro e w1 ⟨rfl, hb⟩; replace hbel := hbel.trans (hb.mono hbel.size)))
          go_ret
          exact ⟨rfl, hbel⟩
  · have hq : decide ((s.size : Int) ≤ (other.size : Int)) = false := by simp; omega
    have hns : ¬ starts s.data.toList other.data.toList := by
      rintro ⟨h, _⟩
      omega
    clear ht
    rcases l3 hns with l3 | l3
    · go_enter Tryd.func5, Tryd.ntmps5
      go_wp2_with (first
      | (go_at_call 15; refine (hnx.out _).mono ?_; rintro e w1 ⟨rfl, hbel⟩; replace hm := hm.next hbel)
      | (go_at_call 9; refine (alive_any _ hm).mono ?_; rintro e w1 ⟨rfl, hb⟩; replace hbel := hbel.trans (hb.mono hbel.size)))
      go_ret
      exact ⟨rfl, hbel⟩
    · by_cases l4 : Op.bytesLess other.toList s.toList = true
      · go_enter Tryd.func5, Tryd.ntmps5
        go_wp2_with (first
      | (go_at_call 15; refine (hnx.out _).mono ?_; rintro e w1 ⟨rfl, hbel⟩; replace hm := hm.next hbel)
      | (go_at_call 9; refine (alive_any _ hm).mono ?_; rintro e w1 ⟨rfl, hb⟩; replace hbel := hbel.trans (hb.mono hbel.size)))
        go_ret
        exact ⟨rfl, hbel⟩
      · have l5 : Op.bytesLess other.toList s.toList = false := by simpa using l4
        clear l4
        go_enter Tryd.func5, Tryd.ntmps5
        go_wp2_with (first
      | (go_at_call 15; refine (hnx.out _).mono ?_; rintro e w1 ⟨rfl, hbel⟩; replace hm := hm.next hbel)
      | (go_at_call 9; refine (alive_any _ hm).mono ?_; rintro e w1 ⟨rfl, hb⟩; replace hbel := hbel.trans (hb.mono hbel.size)))
        go_ret
        exact ⟨rfl, hbel⟩

set_option maxHeartbeats 1000000 in
theorem okeyNext_none (s more other : ByteArray) (h1 : s.size ≤ 300) (h2 : more.size ≤ 300) (h3 : other.size ≤ 300) (w : World) (hm : Max w)
    (ht : nxt s.data.toList = none) :
    Calls Tryd.prog 5 #[.string s, .string more, .string other] w fun e w' => e = .returned (.bool true) ∧ Below w.heap.size w w' := by
  have d1 : decide (300 < s.size) = false := by simpa using h1
  have d2 : decide (300 < more.size) = false := by simpa using h2
  have d3 : decide (300 < other.size) = false := by simpa using h3
  have hnx : Hid (∀ w' : World, Calls Tryd.prog 15 #[.string s] w' fun e w1 => e = .returned (.tuple #[.string ⟨#[]⟩, .bool false]) ∧ Below w'.heap.size w' w1) := by
    intro w'
    have := next_any s w' (by omega)
    unfold nextVal at this
    rw [ht] at this
    exact this
  have hall : ∀ (j : Nat) (hj : j < s.size), s[j] = 255 := fun j hj => nxt_all _ ht _ (List.getElem_mem (show j < s.data.toList.length from hj))
  clear ht
  rcases Nat.lt_or_ge other.size s.size with hc | hc
  rotate_left
  · have hq : (s.size : Int) ≤ (other.size : Int) := by omega
    go_enter Tryd.func5, Tryd.ntmps5
    go_wp2_with (first
      | (go_at_call 15; refine (hnx.out _).mono ?_; rintro e w1 ⟨rfl, hbel⟩; replace hm := hm.next hbel)
      | (go_at_call 9; refine (alive_any _ hm).mono ?_; rintro e w1 ⟨rfl, hb⟩; replace hbel := hbel.trans (hb.mono hbel.size)))
    go_loop [10] (fun i => ∃ k : Nat, k ≤ s.size ∧ i = .int .i64 k) (fun i => s.size - (intOf i).toNat)
    case atStart => exact ⟨0, Nat.zero_le _, rfl⟩
    case round =>
      obtain ⟨k, hk, rfl⟩ := hrel
      by_cases hlt : k < s.size
      · have hx := hall k hlt
        go_wp2
        go_round
        case rel => exact ⟨k + 1, by omega, by go_num⟩
        case measure => simp [intOf]; omega
      · have hke : k = s.size := by omega
        subst hke
        go_wp2_with (go_at_call 9; refine (alive_any _ hm).mono ?_; rintro e w1 ⟨rfl, hb⟩; replace hbel := hbel.trans (hb.mono hbel.size))
        go_ret
        exact ⟨rfl, hbel⟩
  · have hq : decide ((s.size : Int) ≤ (other.size : Int)) = false := by simp; omega
    go_enter Tryd.func5, Tryd.ntmps5
    go_wp2_with (first
      | (go_at_call 15; refine (hnx.out _).mono ?_; rintro e w1 ⟨rfl, hbel⟩; replace hm := hm.next hbel)
      | (go_at_call 9; refine (alive_any _ hm).mono ?_; rintro e w1 ⟨rfl, hb⟩; replace hbel := hbel.trans (hb.mono hbel.size)))
    go_loop [10] (fun i => ∃ k : Nat, k ≤ s.size ∧ i = .int .i64 k) (fun i => s.size - (intOf i).toNat)
    case atStart => exact ⟨0, Nat.zero_le _, rfl⟩
    case round =>
      obtain ⟨k, hk, rfl⟩ := hrel
      by_cases hlt : k < s.size
      · have hx := hall k hlt
        go_wp2
        go_round
        case rel => exact ⟨k + 1, by omega, by go_num⟩
        case measure => simp [intOf]; omega
      · have hke : k = s.size := by omega
        subst hke
        go_wp2_with (go_at_call 9; refine (alive_any _ hm).mono ?_; rintro e w1 ⟨rfl, hb⟩; replace hbel := hbel.trans (hb.mono hbel.size))
        go_ret
        exact ⟨rfl, hbel⟩

theorem okeyNext_walk (s : ByteArray) (hs : s.size ≤ maxLen) (more : ByteArray) (hmo : more.size ≤ maxLen) (other : ByteArray) (hot : other.size ≤ maxLen) (w : World) (hm : Max w) :
    Calls Tryd.prog 5 #[.string s, .string more, .string other] w fun e w' => e = .returned (.bool true) ∧ Below w.heap.size w w' := by
  have _ := hs
  have _ := hmo
  have _ := hot
  by_cases h1 : s.size ≤ 300
  · by_cases h2 : more.size ≤ 300
    · by_cases h3 : other.size ≤ 300
      · cases ht : nxt s.data.toList with
        | none => exact okeyNext_none s more other h1 h2 h3 w hm ht
        | some t => exact okeyNext_some s more other ⟨t.toArray⟩ h1 h2 h3 w hm ht
      · have g3 : 300 < other.size := by omega
        have d1 : decide (300 < s.size) = false := by simpa using h1
        have d2 : decide (300 < more.size) = false := by simpa using h2
        clear h1 h2 h3
        go_enter Tryd.func5, Tryd.ntmps5
        go_wp2_with (go_at_call 9; refine (alive_any _ hm).mono ?_; rintro e w1 ⟨rfl, hb⟩)
        all_goals go_ret
        all_goals exact ⟨rfl, hb⟩
    · have g2 : 300 < more.size := by omega
      have d1 : decide (300 < s.size) = false := by simpa using h1
      clear h1 h2
      go_enter Tryd.func5, Tryd.ntmps5
      go_wp2_with (go_at_call 9; refine (alive_any _ hm).mono ?_; rintro e w1 ⟨rfl, hb⟩)
      all_goals go_ret
      all_goals exact ⟨rfl, hb⟩
  · have g1 : 300 < s.size := by omega
    clear h1
    go_enter Tryd.func5, Tryd.ntmps5
    go_wp2_with (go_at_call 9; refine (alive_any _ hm).mono ?_; rintro e w1 ⟨rfl, hb⟩)
    all_goals go_ret
    all_goals exact ⟨rfl, hb⟩
end Go.Proofs.YtfcoagkpeheigaaDoor
