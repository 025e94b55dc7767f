/- The walk of statement OkeyOrders. -/
import Derived.Test.YtfcoagkpeheigaaDoorK9
namespace Go.Proofs.YtfcoagkpeheigaaDoor
open Go.RowKit

theorem u8_irr (c : UInt8) : ¬ c < c := by rw [UInt8.lt_iff_toNat_lt]; omega
theorem u8_pos (c : UInt8) (h : c ≠ 0) : (0 : UInt8) < c := by
  rw [UInt8.lt_iff_toNat_lt]
  have : c.toNat ≠ 0 := fun e => h (UInt8.toNat_inj.1 e)
  have : (0 : UInt8).toNat = 0 := rfl
  omega
theorem u8_low (c : UInt8) : ¬ c < 0 := by
  rw [UInt8.lt_iff_toNat_lt]
  have : (0 : UInt8).toNat = 0 := rfl
  omega
theorem key_less (X Y : List UInt8) : ∀ (a b : List UInt8), Op.bytesLess (key a ++ X) (key b ++ Y) = (Op.bytesLess a b || (a == b && Op.bytesLess X Y))
  | [], [] => by simp [key, esc, Op.bytesLess]
  | [], d :: b => by
    by_cases h : d = 0
    · subst h; simp [key, esc, Op.bytesLess]
    · simp [key, esc, h, Op.bytesLess, u8_pos d h]
  | c :: a, [] => by
    by_cases h : c = 0
    · subst h; simp [key, esc, Op.bytesLess]
    · simp [key, esc, h, Op.bytesLess, u8_low c]
  | c :: a, d :: b => by
    have ih := key_less X Y a b
    unfold key at ih ⊢
    by_cases hc : c = 0
    · by_cases hd : d = 0
      · subst hc hd
        simp only [esc, if_pos, List.cons_append, Op.bytesLess, u8_irr, ih]
        simp
      · subst hc
        simp [esc, hd, Op.bytesLess, u8_pos d hd]
    · by_cases hd : d = 0
      · subst hd
        have hb : (c == 0) = false := beq_eq_false_iff_ne.2 hc
        simp [esc, hc, hb, Op.bytesLess, u8_low c]
      · simp only [esc, if_neg hc, if_neg hd, List.cons_append, Op.bytesLess, ih]
        by_cases he : c = d
        · subst he; simp
        · have hb : (c == d) = false := beq_eq_false_iff_ne.2 he
          simp [hb]
theorem same_less (X Y : List UInt8) : ∀ (p q : List UInt8), p.length = q.length → Op.bytesLess (p ++ X) (q ++ Y) = (Op.bytesLess p q || (p == q && Op.bytesLess X Y))
  | [], [], _ => by simp [Op.bytesLess]
  | c :: p, d :: q, h => by
    have ih := same_less X Y p q (by simpa using h)
    simp only [List.cons_append, Op.bytesLess, ih]
    by_cases he : c = d
    · subst he; simp
    · have hb : (c == d) = false := beq_eq_false_iff_ne.2 he
      simp [hb]
theorem be_eq (m n : Nat) (hm : m < 18446744073709551616) (hn : n < 18446744073709551616) : (be m 8 == be n 8) = ((m : Int) == (n : Int)) := by
  by_cases h : m = n
  · subst h; simp
  · have h1 : be m 8 ≠ be n 8 := fun e => h (by
      have := congrArg beVal e
      rwa [beVal_be 8 m hm, beVal_be 8 n hn] at this)
    rw [beq_eq_false_iff_ne.2 h1, beq_eq_false_iff_ne.2 (by omega)]
theorem num_less (m n : Nat) (hm : m < 18446744073709551616) (hn : n < 18446744073709551616) : Op.bytesLess (be m 8) (be n 8) = decide ((m : Int) < (n : Int)) := by
  rw [be_less 8 m n hm hn]
  congr 1
  simp
theorem turn_lt (i : Int) (h0 : -9223372036854775808 ≤ i) (h1 : i ≤ 9223372036854775807) : turn i < 18446744073709551616 := by unfold turn; omega
theorem int_less (i j : Int) (h0 : -9223372036854775808 ≤ i) (h1 : i ≤ 9223372036854775807) (g0 : -9223372036854775808 ≤ j) (g1 : j ≤ 9223372036854775807) : Op.bytesLess (be (turn i) 8) (be (turn j) 8) = decide (i < j) := by
  rw [be_less 8 _ _ (turn_lt i h0 h1) (turn_lt j g0 g1)]
  apply decide_eq_decide.2
  unfold turn
  omega
theorem all_less (a b : List UInt8) (m n : Nat) (i j : Int) (hm : m < 18446744073709551616) (hn : n < 18446744073709551616) (h0 : -9223372036854775808 ≤ i) (h1 : i ≤ 9223372036854775807) (g0 : -9223372036854775808 ≤ j) (g1 : j ≤ 9223372036854775807) :
    Op.bytesLess (layAll [⟨1, a, 0, 0⟩, ⟨2, [], m, 0⟩, ⟨3, [], 0, i⟩]) (layAll [⟨1, b, 0, 0⟩, ⟨2, [], n, 0⟩, ⟨3, [], 0, j⟩]) = (Op.bytesLess a b || (a == b && (decide ((m : Int) < (n : Int)) || (((m : Int) == (n : Int)) && decide (i < j))))) := by
  have e : ∀ (a : List UInt8) (m : Nat) (i : Int), layAll [⟨1, a, 0, 0⟩, ⟨2, [], m, 0⟩, ⟨3, [], 0, i⟩] = key a ++ (be m 8 ++ be (turn i) 8) := by
    intro a m i; simp [layAll, layPart]
  rw [e, e, key_less, same_less _ _ _ _ (by rw [be_length, be_length]), num_less m n hm hn, be_eq m n hm hn, int_less i j h0 h1 g0 g1]
theorem key_starts (a b t : List UInt8) (h : key b = key a ++ t) : a = b := by
  have h1 := rdKey_key t a
  rw [← h] at h1
  have h2 := rdKey_key [] b
  rw [List.append_nil, h1] at h2
  exact (Prod.mk.inj h2).1
theorem take_data (B : ByteArray) (k : Nat) : (B.extract 0 k).data.toList = B.data.toList.take k := by
  rcases B with ⟨⟨l⟩⟩
  simp [ByteArray.data_extract]

/-- What the calls of this statement answer. -/
structure OrdC (a b x y p q nm nn im jn : ByteArray) (m n : Nat) (i j : Int) : Prop where
  cx : ∀ (w' : World), Max w' → Calls Tryd.prog 10 #[.slice (some ⟨w'.heap.size, 0, none⟩) 3 3] (w'.alloc (.cells #[.int .i64 1, .string a, .int .u64 0, .int .i64 0, .int .i64 2, .string ⟨#[]⟩, .int .u64 (m : Int), .int .i64 0, .int .i64 3, .string ⟨#[]⟩, .int .u64 0, .int .i64 i] 28)) fun e w1 => e = .returned (.tuple #[.string x, .int .i64 0]) ∧ Below w'.heap.size w' w1
  cy : ∀ (w' : World), Max w' → Calls Tryd.prog 10 #[.slice (some ⟨w'.heap.size, 0, none⟩) 3 3] (w'.alloc (.cells #[.int .i64 1, .string b, .int .u64 0, .int .i64 0, .int .i64 2, .string ⟨#[]⟩, .int .u64 (n : Int), .int .i64 0, .int .i64 3, .string ⟨#[]⟩, .int .u64 0, .int .i64 j] 28)) fun e w1 => e = .returned (.tuple #[.string y, .int .i64 0]) ∧ Below w'.heap.size w' w1
  cp : ∀ (w' : World), Max w' → Calls Tryd.prog 12 #[.string a] w' fun e w1 => e = .returned (.string p) ∧ Below w'.heap.size w' w1
  cq : ∀ (w' : World), Max w' → Calls Tryd.prog 12 #[.string b] w' fun e w1 => e = .returned (.string q) ∧ Below w'.heap.size w' w1
  cm : ∀ (w' : World), Calls Tryd.prog 13 #[.int .u64 (m : Int)] w' fun e w1 => e = .returned (.string nm) ∧ Below w'.heap.size w' w1
  cn : ∀ (w' : World), Calls Tryd.prog 13 #[.int .u64 (n : Int)] w' fun e w1 => e = .returned (.string nn) ∧ Below w'.heap.size w' w1
  ci : ∀ (w' : World), Calls Tryd.prog 14 #[.int .i64 i] w' fun e w1 => e = .returned (.string im) ∧ Below w'.heap.size w' w1
  cj : ∀ (w' : World), Calls Tryd.prog 14 #[.int .i64 j] w' fun e w1 => e = .returned (.string jn) ∧ Below w'.heap.size w' w1

set_option maxHeartbeats 4000000 in
theorem orders_c1a (a b x y p q nm nn im jn : ByteArray) (m n : Nat) (i j : Int) (K : OrdC a b x y p q nm nn im jn m n i j) (w : World) (hm : Max w) (ha : a.size ≤ 300) (hb : b.size ≤ 300)
    (h1 : Op.bytesLess a.toList b.toList = true) (h2 : (a.toList == b.toList) = false) (hx : Op.bytesLess x.toList y.toList = true) (hlen : q.size < p.size) (hN : Op.bytesLess nm.toList nn.toList = decide ((m : Int) < (n : Int))) (hI : Op.bytesLess im.toList jn.toList = decide (i < j)) :
    Calls Tryd.prog 4 #[.string a, .string b, .int .u64 (m : Int), .int .u64 (n : Int), .int .i64 i, .int .i64 j] w fun e w' => e = .returned (.bool true) ∧ Below w.heap.size w w' := by
  have d1 : decide (300 < a.size) = false := by simpa using ha
  have d2 : decide (300 < b.size) = false := by simpa using hb
  have hbel := Below.refl w.heap.size w
  have hdl : decide ((p.size : Int) ≤ (q.size : Int)) = false := by simp; omega
  go_enter Tryd.func4, Tryd.ntmps4
  go_wp2_with (first
    | (go_at_call 10; (first | with_reducible refine (K.cx _ hm).mono ?_ | with_reducible refine (K.cy _ hm).mono ?_); rintro e w1 ⟨rfl, hb1⟩; replace hm := hm.next hb1; replace hbel := hbel.trans (hb1.mono hbel.size))
    | (go_at_call 12; (first | with_reducible refine (K.cp _ hm).mono ?_ | with_reducible refine (K.cq _ hm).mono ?_); rintro e w1 ⟨rfl, hb1⟩; replace hm := hm.next hb1; replace hbel := hbel.trans (hb1.mono hbel.size))
    | (go_at_call 13; (first | with_reducible refine (K.cm _).mono ?_ | with_reducible refine (K.cn _).mono ?_); rintro e w1 ⟨rfl, hb1⟩; replace hbel := hbel.trans (hb1.mono hbel.size))
    | (go_at_call 14; (first | with_reducible refine (K.ci _).mono ?_ | with_reducible refine (K.cj _).mono ?_); rintro e w1 ⟨rfl, hb1⟩; replace hbel := hbel.trans (hb1.mono hbel.size))
    | (go_at_call 9; refine (alive_any _ hm).mono ?_; rintro e w1 ⟨rfl, hb1⟩; replace hbel := hbel.trans (hb1.mono hbel.size)))
  all_goals go_ret
  all_goals exact ⟨ret_bool' (by simp_all), hbel⟩

set_option maxHeartbeats 4000000 in
theorem orders_c1b (a b x y p q nm nn im jn : ByteArray) (m n : Nat) (i j : Int) (K : OrdC a b x y p q nm nn im jn m n i j) (w : World) (hm : Max w) (ha : a.size ≤ 300) (hb : b.size ≤ 300)
    (h1 : Op.bytesLess a.toList b.toList = true) (h2 : (a.toList == b.toList) = false) (hx : Op.bytesLess x.toList y.toList = true) (hlen : p.size ≤ q.size) (hq : ((q.extract 0 p.size).toList == p.toList) = false) (hN : Op.bytesLess nm.toList nn.toList = decide ((m : Int) < (n : Int))) (hI : Op.bytesLess im.toList jn.toList = decide (i < j)) :
    Calls Tryd.prog 4 #[.string a, .string b, .int .u64 (m : Int), .int .u64 (n : Int), .int .i64 i, .int .i64 j] w fun e w' => e = .returned (.bool true) ∧ Below w.heap.size w w' := by
  have d1 : decide (300 < a.size) = false := by simpa using ha
  have d2 : decide (300 < b.size) = false := by simpa using hb
  have hbel := Below.refl w.heap.size w
  have hdl : (p.size : Int) ≤ (q.size : Int) := by omega
  go_enter Tryd.func4, Tryd.ntmps4
  go_wp2_with (first
    | (go_at_call 10; (first | with_reducible refine (K.cx _ hm).mono ?_ | with_reducible refine (K.cy _ hm).mono ?_); rintro e w1 ⟨rfl, hb1⟩; replace hm := hm.next hb1; replace hbel := hbel.trans (hb1.mono hbel.size))
    | (go_at_call 12; (first | with_reducible refine (K.cp _ hm).mono ?_ | with_reducible refine (K.cq _ hm).mono ?_); rintro e w1 ⟨rfl, hb1⟩; replace hm := hm.next hb1; replace hbel := hbel.trans (hb1.mono hbel.size))
    | (go_at_call 13; (first | with_reducible refine (K.cm _).mono ?_ | with_reducible refine (K.cn _).mono ?_); rintro e w1 ⟨rfl, hb1⟩; replace hbel := hbel.trans (hb1.mono hbel.size))
    | (go_at_call 14; (first | with_reducible refine (K.ci _).mono ?_ | with_reducible refine (K.cj _).mono ?_); rintro e w1 ⟨rfl, hb1⟩; replace hbel := hbel.trans (hb1.mono hbel.size))
    | (go_at_call 9; refine (alive_any _ hm).mono ?_; rintro e w1 ⟨rfl, hb1⟩; replace hbel := hbel.trans (hb1.mono hbel.size)))
  all_goals go_ret
  all_goals exact ⟨ret_bool' (by simp_all), hbel⟩

set_option maxHeartbeats 4000000 in
theorem orders_c2a (a b x y p q nm nn im jn : ByteArray) (m n : Nat) (i j : Int) (K : OrdC a b x y p q nm nn im jn m n i j) (w : World) (hm : Max w) (ha : a.size ≤ 300) (hb : b.size ≤ 300)
    (h1 : Op.bytesLess a.toList b.toList = false) (h2 : (a.toList == b.toList) = false) (hx : Op.bytesLess x.toList y.toList = false) (hlen : q.size < p.size) (hN : Op.bytesLess nm.toList nn.toList = decide ((m : Int) < (n : Int))) (hI : Op.bytesLess im.toList jn.toList = decide (i < j)) :
    Calls Tryd.prog 4 #[.string a, .string b, .int .u64 (m : Int), .int .u64 (n : Int), .int .i64 i, .int .i64 j] w fun e w' => e = .returned (.bool true) ∧ Below w.heap.size w w' := by
  have d1 : decide (300 < a.size) = false := by simpa using ha
  have d2 : decide (300 < b.size) = false := by simpa using hb
  have hbel := Below.refl w.heap.size w
  have hdl : decide ((p.size : Int) ≤ (q.size : Int)) = false := by simp; omega
  go_enter Tryd.func4, Tryd.ntmps4
  go_wp2_with (first
    | (go_at_call 10; (first | with_reducible refine (K.cx _ hm).mono ?_ | with_reducible refine (K.cy _ hm).mono ?_); rintro e w1 ⟨rfl, hb1⟩; replace hm := hm.next hb1; replace hbel := hbel.trans (hb1.mono hbel.size))
    | (go_at_call 12; (first | with_reducible refine (K.cp _ hm).mono ?_ | with_reducible refine (K.cq _ hm).mono ?_); rintro e w1 ⟨rfl, hb1⟩; replace hm := hm.next hb1; replace hbel := hbel.trans (hb1.mono hbel.size))
    | (go_at_call 13; (first | with_reducible refine (K.cm _).mono ?_ | with_reducible refine (K.cn _).mono ?_); rintro e w1 ⟨rfl, hb1⟩; replace hbel := hbel.trans (hb1.mono hbel.size))
    | (go_at_call 14; (first | with_reducible refine (K.ci _).mono ?_ | with_reducible refine (K.cj _).mono ?_); rintro e w1 ⟨rfl, hb1⟩; replace hbel := hbel.trans (hb1.mono hbel.size))
    | (go_at_call 9; refine (alive_any _ hm).mono ?_; rintro e w1 ⟨rfl, hb1⟩; replace hbel := hbel.trans (hb1.mono hbel.size)))
  all_goals go_ret
  all_goals exact ⟨ret_bool' (by simp_all), hbel⟩

set_option maxHeartbeats 4000000 in
theorem orders_c2b (a b x y p q nm nn im jn : ByteArray) (m n : Nat) (i j : Int) (K : OrdC a b x y p q nm nn im jn m n i j) (w : World) (hm : Max w) (ha : a.size ≤ 300) (hb : b.size ≤ 300)
    (h1 : Op.bytesLess a.toList b.toList = false) (h2 : (a.toList == b.toList) = false) (hx : Op.bytesLess x.toList y.toList = false) (hlen : p.size ≤ q.size) (hq : ((q.extract 0 p.size).toList == p.toList) = false) (hN : Op.bytesLess nm.toList nn.toList = decide ((m : Int) < (n : Int))) (hI : Op.bytesLess im.toList jn.toList = decide (i < j)) :
    Calls Tryd.prog 4 #[.string a, .string b, .int .u64 (m : Int), .int .u64 (n : Int), .int .i64 i, .int .i64 j] w fun e w' => e = .returned (.bool true) ∧ Below w.heap.size w w' := by
  have d1 : decide (300 < a.size) = false := by simpa using ha
  have d2 : decide (300 < b.size) = false := by simpa using hb
  have hbel := Below.refl w.heap.size w
  have hdl : (p.size : Int) ≤ (q.size : Int) := by omega
  go_enter Tryd.func4, Tryd.ntmps4
  go_wp2_with (first
    | (go_at_call 10; (first | with_reducible refine (K.cx _ hm).mono ?_ | with_reducible refine (K.cy _ hm).mono ?_); rintro e w1 ⟨rfl, hb1⟩; replace hm := hm.next hb1; replace hbel := hbel.trans (hb1.mono hbel.size))
    | (go_at_call 12; (first | with_reducible refine (K.cp _ hm).mono ?_ | with_reducible refine (K.cq _ hm).mono ?_); rintro e w1 ⟨rfl, hb1⟩; replace hm := hm.next hb1; replace hbel := hbel.trans (hb1.mono hbel.size))
    | (go_at_call 13; (first | with_reducible refine (K.cm _).mono ?_ | with_reducible refine (K.cn _).mono ?_); rintro e w1 ⟨rfl, hb1⟩; replace hbel := hbel.trans (hb1.mono hbel.size))
    | (go_at_call 14; (first | with_reducible refine (K.ci _).mono ?_ | with_reducible refine (K.cj _).mono ?_); rintro e w1 ⟨rfl, hb1⟩; replace hbel := hbel.trans (hb1.mono hbel.size))
    | (go_at_call 9; refine (alive_any _ hm).mono ?_; rintro e w1 ⟨rfl, hb1⟩; replace hbel := hbel.trans (hb1.mono hbel.size)))
  all_goals go_ret
  all_goals exact ⟨ret_bool' (by simp_all), hbel⟩

set_option maxHeartbeats 4000000 in
theorem orders_c3 (a b x y p q nm nn im jn : ByteArray) (m n : Nat) (i j : Int) (K : OrdC a b x y p q nm nn im jn m n i j) (w : World) (hm : Max w) (ha : a.size ≤ 300) (hb : b.size ≤ 300)
    (h1 : Op.bytesLess a.toList b.toList = false) (h2 : (a.toList == b.toList) = true) (h3 : (m : Int) < (n : Int)) (hx : Op.bytesLess x.toList y.toList = true) (hlen : p.size ≤ q.size) (hq : ((q.extract 0 p.size).toList == p.toList) = true) (hN : Op.bytesLess nm.toList nn.toList = true) (hI : Op.bytesLess im.toList jn.toList = decide (i < j)) :
    Calls Tryd.prog 4 #[.string a, .string b, .int .u64 (m : Int), .int .u64 (n : Int), .int .i64 i, .int .i64 j] w fun e w' => e = .returned (.bool true) ∧ Below w.heap.size w w' := by
  have d1 : decide (300 < a.size) = false := by simpa using ha
  have d2 : decide (300 < b.size) = false := by simpa using hb
  have hbel := Below.refl w.heap.size w
  have hdl : (p.size : Int) ≤ (q.size : Int) := by omega
  go_enter Tryd.func4, Tryd.ntmps4
  go_wp2_with (first
    | (go_at_call 10; (first | with_reducible refine (K.cx _ hm).mono ?_ | with_reducible refine (K.cy _ hm).mono ?_); rintro e w1 ⟨rfl, hb1⟩; replace hm := hm.next hb1; replace hbel := hbel.trans (hb1.mono hbel.size))
    | (go_at_call 12; (first | with_reducible refine (K.cp _ hm).mono ?_ | with_reducible refine (K.cq _ hm).mono ?_); rintro e w1 ⟨rfl, hb1⟩; replace hm := hm.next hb1; replace hbel := hbel.trans (hb1.mono hbel.size))
    | (go_at_call 13; (first | with_reducible refine (K.cm _).mono ?_ | with_reducible refine (K.cn _).mono ?_); rintro e w1 ⟨rfl, hb1⟩; replace hbel := hbel.trans (hb1.mono hbel.size))
    | (go_at_call 14; (first | with_reducible refine (K.ci _).mono ?_ | with_reducible refine (K.cj _).mono ?_); rintro e w1 ⟨rfl, hb1⟩; replace hbel := hbel.trans (hb1.mono hbel.size))
    | (go_at_call 9; refine (alive_any _ hm).mono ?_; rintro e w1 ⟨rfl, hb1⟩; replace hbel := hbel.trans (hb1.mono hbel.size)))
  all_goals go_ret
  all_goals exact ⟨ret_bool' (by simp_all), hbel⟩

set_option maxHeartbeats 4000000 in
theorem orders_c4 (a b x y p q nm nn im jn : ByteArray) (m n : Nat) (i j : Int) (K : OrdC a b x y p q nm nn im jn m n i j) (w : World) (hm : Max w) (ha : a.size ≤ 300) (hb : b.size ≤ 300)
    (h1 : Op.bytesLess a.toList b.toList = false) (h2 : (a.toList == b.toList) = true) (h3 : decide ((m : Int) < (n : Int)) = false) (h4 : ((m : Int) == (n : Int)) = false) (hx : Op.bytesLess x.toList y.toList = false) (hlen : p.size ≤ q.size) (hq : ((q.extract 0 p.size).toList == p.toList) = true) (hN : Op.bytesLess nm.toList nn.toList = false) (hI : Op.bytesLess im.toList jn.toList = decide (i < j)) :
    Calls Tryd.prog 4 #[.string a, .string b, .int .u64 (m : Int), .int .u64 (n : Int), .int .i64 i, .int .i64 j] w fun e w' => e = .returned (.bool true) ∧ Below w.heap.size w w' := by
  have d1 : decide (300 < a.size) = false := by simpa using ha
  have d2 : decide (300 < b.size) = false := by simpa using hb
  have hbel := Below.refl w.heap.size w
  have hdl : (p.size : Int) ≤ (q.size : Int) := by omega
  go_enter Tryd.func4, Tryd.ntmps4
  go_wp2_with (first
    | (go_at_call 10; (first | with_reducible refine (K.cx _ hm).mono ?_ | with_reducible refine (K.cy _ hm).mono ?_); rintro e w1 ⟨rfl, hb1⟩; replace hm := hm.next hb1; replace hbel := hbel.trans (hb1.mono hbel.size))
    | (go_at_call 12; (first | with_reducible refine (K.cp _ hm).mono ?_ | with_reducible refine (K.cq _ hm).mono ?_); rintro e w1 ⟨rfl, hb1⟩; replace hm := hm.next hb1; replace hbel := hbel.trans (hb1.mono hbel.size))
    | (go_at_call 13; (first | with_reducible refine (K.cm _).mono ?_ | with_reducible refine (K.cn _).mono ?_); rintro e w1 ⟨rfl, hb1⟩; replace hbel := hbel.trans (hb1.mono hbel.size))
    | (go_at_call 14; (first | with_reducible refine (K.ci _).mono ?_ | with_reducible refine (K.cj _).mono ?_); rintro e w1 ⟨rfl, hb1⟩; replace hbel := hbel.trans (hb1.mono hbel.size))
    | (go_at_call 9; refine (alive_any _ hm).mono ?_; rintro e w1 ⟨rfl, hb1⟩; replace hbel := hbel.trans (hb1.mono hbel.size)))
  all_goals go_ret
  all_goals exact ⟨ret_bool' (by simp_all), hbel⟩

set_option maxHeartbeats 4000000 in
theorem orders_c5 (a b x y p q nm nn im jn : ByteArray) (m n : Nat) (i j : Int) (K : OrdC a b x y p q nm nn im jn m n i j) (w : World) (hm : Max w) (ha : a.size ≤ 300) (hb : b.size ≤ 300)
    (h1 : Op.bytesLess a.toList b.toList = false) (h2 : (a.toList == b.toList) = true) (h3 : decide ((m : Int) < (n : Int)) = false) (h4 : ((m : Int) == (n : Int)) = true) (hx : Op.bytesLess x.toList y.toList = decide (i < j)) (hlen : p.size ≤ q.size) (hq : ((q.extract 0 p.size).toList == p.toList) = true) (hN : Op.bytesLess nm.toList nn.toList = false) (hI : Op.bytesLess im.toList jn.toList = decide (i < j)) :
    Calls Tryd.prog 4 #[.string a, .string b, .int .u64 (m : Int), .int .u64 (n : Int), .int .i64 i, .int .i64 j] w fun e w' => e = .returned (.bool true) ∧ Below w.heap.size w w' := by
  have d1 : decide (300 < a.size) = false := by simpa using ha
  have d2 : decide (300 < b.size) = false := by simpa using hb
  have hbel := Below.refl w.heap.size w
  have hdl : (p.size : Int) ≤ (q.size : Int) := by omega
  go_enter Tryd.func4, Tryd.ntmps4
  go_wp2_with (first
    | (go_at_call 10; (first | with_reducible refine (K.cx _ hm).mono ?_ | with_reducible refine (K.cy _ hm).mono ?_); rintro e w1 ⟨rfl, hb1⟩; replace hm := hm.next hb1; replace hbel := hbel.trans (hb1.mono hbel.size))
    | (go_at_call 12; (first | with_reducible refine (K.cp _ hm).mono ?_ | with_reducible refine (K.cq _ hm).mono ?_); rintro e w1 ⟨rfl, hb1⟩; replace hm := hm.next hb1; replace hbel := hbel.trans (hb1.mono hbel.size))
    | (go_at_call 13; (first | with_reducible refine (K.cm _).mono ?_ | with_reducible refine (K.cn _).mono ?_); rintro e w1 ⟨rfl, hb1⟩; replace hbel := hbel.trans (hb1.mono hbel.size))
    | (go_at_call 14; (first | with_reducible refine (K.ci _).mono ?_ | with_reducible refine (K.cj _).mono ?_); rintro e w1 ⟨rfl, hb1⟩; replace hbel := hbel.trans (hb1.mono hbel.size))
    | (go_at_call 9; refine (alive_any _ hm).mono ?_; rintro e w1 ⟨rfl, hb1⟩; replace hbel := hbel.trans (hb1.mono hbel.size)))
  all_goals go_ret
  all_goals exact ⟨ret_bool' (by simp_all), hbel⟩

theorem less_irr : ∀ (a : List UInt8), Op.bytesLess a a = false
  | [] => rfl
  | c :: a => by simp [Op.bytesLess, less_irr a]
theorem begins_no (a b : List UInt8) (h : a ≠ b) : (((⟨(key b).toArray⟩ : ByteArray).extract 0 (⟨(key a).toArray⟩ : ByteArray).size).toList == (⟨(key a).toArray⟩ : ByteArray).toList) = false := by
  rw [beq_eq_false_iff_ne]
  intro e
  rw [Lib.toList_data, Lib.toList_data, take_data] at e
  have e2 : (key b).take (key a).length = key a := e
  exact h (key_starts a b ((key b).drop (key a).length) (by
    have h2 := List.take_append_drop (key a).length (key b)
    rw [e2] at h2
    exact h2.symm))
theorem begins_yes (a : List UInt8) : (((⟨(key a).toArray⟩ : ByteArray).extract 0 (⟨(key a).toArray⟩ : ByteArray).size).toList == (⟨(key a).toArray⟩ : ByteArray).toList) = true := by
  rw [Lib.toList_data, Lib.toList_data, take_data]
  have e : ((key a).take (key a).length == key a) = true := by simp
  exact e
theorem put3 (a : ByteArray) (m : Nat) (i : Int) (ha : a.size ≤ 300) (hm : m < 18446744073709551616) (h0 : -9223372036854775808 ≤ i) (h1 : i ≤ 9223372036854775807) (w : World) (hw : Max w) :
    Calls Tryd.prog 10 #[.slice (some ⟨w.heap.size, 0, none⟩) 3 3] (w.alloc (.cells #[.int .i64 1, .string a, .int .u64 0, .int .i64 0, .int .i64 2, .string ⟨#[]⟩, .int .u64 (m : Int), .int .i64 0, .int .i64 3, .string ⟨#[]⟩, .int .u64 0, .int .i64 i] 28)) fun e w1 => e = .returned (.tuple #[.string ⟨(layAll [⟨1, a.data.toList, 0, 0⟩, ⟨2, [], m, 0⟩, ⟨3, [], 0, i⟩]).toArray⟩, .int .i64 0]) ∧ Below w.heap.size w w1 := by
  have hsz : a.data.toList.length = a.size := rfl
  exact put_lit w hw [⟨1, a.data.toList, 0, 0⟩, ⟨2, [], m, 0⟩, ⟨3, [], 0, i⟩] _ rfl (by simp) (by
    intro p hp
    simp only [List.mem_cons, List.not_mem_nil, or_false] at hp
    rcases hp with rfl | rfl | rfl
    · exact ⟨by simp, by simp, by simp, by simp only; omega⟩
    · exact ⟨hm, by simp, by simp, by simp⟩
    · exact ⟨by simp, h0, h1, by simp⟩) (by
    intro k hk
    simp only [List.map_cons, List.map_nil, List.mem_cons, List.not_mem_nil, or_false] at hk
    rcases hk with rfl | rfl | rfl <;> decide)

theorem okeyOrders_few (a b : ByteArray) (m n : Nat) (i j : Int) (ha : a.size ≤ 300) (hb : b.size ≤ 300) (hm : m < 18446744073709551616) (hn : n < 18446744073709551616) (h0 : -9223372036854775808 ≤ i) (h1 : i ≤ 9223372036854775807) (g0 : -9223372036854775808 ≤ j) (g1 : j ≤ 9223372036854775807) (w : World) (hw : Max w) :
    Calls Tryd.prog 4 #[.string a, .string b, .int .u64 (m : Int), .int .u64 (n : Int), .int .i64 i, .int .i64 j] w fun e w' => e = .returned (.bool true) ∧ Below w.heap.size w w' := by
  have K : OrdC a b ⟨(layAll [⟨1, a.data.toList, 0, 0⟩, ⟨2, [], m, 0⟩, ⟨3, [], 0, i⟩]).toArray⟩ ⟨(layAll [⟨1, b.data.toList, 0, 0⟩, ⟨2, [], n, 0⟩, ⟨3, [], 0, j⟩]).toArray⟩ ⟨(key a.data.toList).toArray⟩ ⟨(key b.data.toList).toArray⟩ ⟨(be m 8).toArray⟩ ⟨(be n 8).toArray⟩ ⟨(be (turn i) 8).toArray⟩ ⟨(be (turn j) 8).toArray⟩ m n i j :=
    ⟨fun w' hw' => put3 a m i ha hm h0 h1 w' hw', fun w' hw' => put3 b n j hb hn g0 g1 w' hw', fun w' hw' => text_any a w' (by omega) hw', fun w' hw' => text_any b w' (by omega) hw', fun w' => num_any m w' hm, fun w' => num_any n w' hn, fun w' => int_any i w' h0 h1, fun w' => int_any j w' g0 g1⟩
  have hx := all_less a.data.toList b.data.toList m n i j hm hn h0 h1 g0 g1
  have hN := num_less m n hm hn
  have hI := int_less i j h0 h1 g0 g1
  have td : ∀ l : List UInt8, (⟨l.toArray⟩ : ByteArray).toList = l := fun l => Lib.toList_data _
  have ad : a.toList = a.data.toList := Lib.toList_data a
  have bd : b.toList = b.data.toList := Lib.toList_data b
  rw [← ad, ← bd] at hx
  by_cases e1 : Op.bytesLess a.toList b.toList = true
  · have hne : a.data.toList ≠ b.data.toList := by
      intro e
      rw [ad, bd, e, less_irr] at e1
      cases e1
    have e2 : (a.toList == b.toList) = false := by rw [beq_eq_false_iff_ne, ad, bd]; exact hne
    rw [e1, e2] at hx
    rcases Nat.lt_or_ge (⟨(key b.data.toList).toArray⟩ : ByteArray).size (⟨(key a.data.toList).toArray⟩ : ByteArray).size with hl | hl
    · exact orders_c1a a b _ _ _ _ _ _ _ _ m n i j K w hw ha hb e1 e2 (by rw [td, td, ← ad, ← bd]; simpa using hx) hl (by rw [td, td]; exact hN) (by rw [td, td]; exact hI)
    · exact orders_c1b a b _ _ _ _ _ _ _ _ m n i j K w hw ha hb e1 e2 (by rw [td, td, ← ad, ← bd]; simpa using hx) hl (begins_no _ _ hne) (by rw [td, td]; exact hN) (by rw [td, td]; exact hI)
  · have e1 : Op.bytesLess a.toList b.toList = false := by simpa using e1
    by_cases e2 : (a.toList == b.toList) = true
    · have heq : a.data.toList = b.data.toList := by rw [← ad, ← bd]; exact eq_of_beq e2
      have hl : (⟨(key a.data.toList).toArray⟩ : ByteArray).size ≤ (⟨(key b.data.toList).toArray⟩ : ByteArray).size := by rw [heq]; exact Nat.le_refl _
      have hq : (((⟨(key b.data.toList).toArray⟩ : ByteArray).extract 0 (⟨(key a.data.toList).toArray⟩ : ByteArray).size).toList == (⟨(key a.data.toList).toArray⟩ : ByteArray).toList) = true := by rw [heq]; exact begins_yes _
      rw [e1, e2] at hx
      by_cases e3 : (m : Int) < (n : Int)
      · rw [decide_eq_true e3] at hx hN
        exact orders_c3 a b _ _ _ _ _ _ _ _ m n i j K w hw ha hb e1 e2 e3 (by rw [td, td, ← ad, ← bd]; simpa using hx) hl hq (by rw [td, td]; exact hN) (by rw [td, td]; exact hI)
      · rw [decide_eq_false e3] at hx hN
        by_cases e4 : ((m : Int) == (n : Int)) = true
        · rw [e4] at hx
          exact orders_c5 a b _ _ _ _ _ _ _ _ m n i j K w hw ha hb e1 e2 (decide_eq_false e3) e4 (by rw [td, td, ← ad, ← bd]; simpa using hx) hl hq (by rw [td, td]; exact hN) (by rw [td, td]; exact hI)
        · have e4 : ((m : Int) == (n : Int)) = false := by simpa using e4
          rw [e4] at hx
          exact orders_c4 a b _ _ _ _ _ _ _ _ m n i j K w hw ha hb e1 e2 (decide_eq_false e3) e4 (by rw [td, td, ← ad, ← bd]; simpa using hx) hl hq (by rw [td, td]; exact hN) (by rw [td, td]; exact hI)
    · have e2 : (a.toList == b.toList) = false := by simpa using e2
      have hne : a.data.toList ≠ b.data.toList := by
        rw [beq_eq_false_iff_ne, ad, bd] at e2
        exact e2
      rw [e1, e2] at hx
      rcases Nat.lt_or_ge (⟨(key b.data.toList).toArray⟩ : ByteArray).size (⟨(key a.data.toList).toArray⟩ : ByteArray).size with hl | hl
      · exact orders_c2a a b _ _ _ _ _ _ _ _ m n i j K w hw ha hb e1 e2 (by rw [td, td, ← ad, ← bd]; simpa using hx) hl (by rw [td, td]; exact hN) (by rw [td, td]; exact hI)
      · exact orders_c2b a b _ _ _ _ _ _ _ _ m n i j K w hw ha hb e1 e2 (by rw [td, td, ← ad, ← bd]; simpa using hx) hl (begins_no _ _ hne) (by rw [td, td]; exact hN) (by rw [td, td]; exact hI)

set_option maxHeartbeats 1000000 in
theorem okeyOrders_walk (a : ByteArray) (hs : a.size ≤ maxLen) (b : ByteArray) (ht : b.size ≤ maxLen) (m : Nat) (hm : m < 18446744073709551616) (n : Nat) (hn : n < 18446744073709551616) (i : Int) (h0 : -9223372036854775808 ≤ i) (h1 : i ≤ 9223372036854775807) (j : Int) (g0 : -9223372036854775808 ≤ j) (g1 : j ≤ 9223372036854775807) (w : World) (hw : Max w) :
    Calls Tryd.prog 4 #[.string a, .string b, .int .u64 (m : Int), .int .u64 (n : Int), .int .i64 i, .int .i64 j] w fun e w' => e = .returned (.bool true) ∧ Below w.heap.size w w' := by
  have _ := hs
  have _ := ht
  by_cases ha : a.size ≤ 300
  · by_cases hb : b.size ≤ 300
    · exact okeyOrders_few a b m n i j ha hb hm hn h0 h1 g0 g1 w hw
    · have q2 : 300 < b.size := by omega
      have d1 : decide (300 < a.size) = false := by simpa using ha
      clear ha hb
      go_enter Tryd.func4, Tryd.ntmps4
      go_wp2_with (go_at_call 9; refine (alive_any _ hw).mono ?_; rintro e w1 ⟨rfl, hb1⟩)
      all_goals go_ret
      all_goals exact ⟨rfl, hb1⟩
  · have q1 : 300 < a.size := by omega
    clear ha
    go_enter Tryd.func4, Tryd.ntmps4
    go_wp2_with (go_at_call 9; refine (alive_any _ hw).mono ?_; rintro e w1 ⟨rfl, hb1⟩)
    all_goals go_ret
    all_goals exact ⟨rfl, hb1⟩
end Go.Proofs.YtfcoagkpeheigaaDoor
