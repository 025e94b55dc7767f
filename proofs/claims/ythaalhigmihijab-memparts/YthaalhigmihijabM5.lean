/- mem: what Get and Range tell, plain; of a nil table; alive. -/
import Derived.Test.YthaalhigmihijabM4
namespace Go.Proofs.Ythaalhigmihijab
open Go.RowKit

theorem ents_unique {ns : List Nd} (ho : ns.Pairwise ltN) {x y : Ent} (hx : x ∈ entsOf ns) (hy : y ∈ entsOf ns) (hs : same2 x y) : x = y := by
  have h1 : (entsOf ns).Pairwise ltE := ents_ord ho
  generalize entsOf ns = l at *
  induction l with
  | nil => cases hx
  | cons a l ih =>
    rw [List.pairwise_cons] at h1
    have h0 : cmpE x.k x.s y.k y.s = 0 := (cmpE_eq _ _ _ _).2 hs
    rcases List.mem_cons.1 hx with rfl | hx'
    · rcases List.mem_cons.1 hy with rfl | hy'
      · rfl
      · have := h1.1 y hy'
        unfold ltE at this
        omega
    · rcases List.mem_cons.1 hy with rfl | hy'
      · have := h1.1 x hx'
        unfold ltE at this
        rw [cmpE_swap, this] at h0
        omega
      · exact ih hx' hy' h1.2
theorem get_is {key : ByteArray} {s : Int} {ns P Q : List Nd} {x : Ent} (ho : ns.Pairwise ltN) (hc : Cut key s ns P Q) (hx : x ∈ entsOf ns) (hk : x.k = key) (hs : x.s ≤ s) (hm : ∀ e ∈ entsOf ns, e.k = key → e.s ≤ s → e.s ≤ x.s) : getR key Q = some x := by
  obtain ⟨y, hy, hle⟩ := getR_most ho hc hx hk hs
  obtain ⟨h1, h2, h3⟩ := getR_right hc hy
  rw [hy, ents_unique ho h3 hx ⟨h1.trans hk.symm, Int.le_antisymm (hm y h3 h1 h2) hle⟩]
theorem get_no {key : ByteArray} {s : Int} {ns P Q : List Nd} (hc : Cut key s ns P Q) (hm : ∀ e ∈ entsOf ns, e.k = key → ¬ e.s ≤ s) : getR key Q = none := by
  cases hg : getR key Q with
  | none => rfl
  | some y =>
    obtain ⟨h1, h2, h3⟩ := getR_right hc hg
    exact absurd h2 (hm y h3 h1)
theorem take_filter {α : Type} (f : α → Bool) : ∀ l : List α, l.Pairwise (fun x y => f y = true → f x = true) → l.takeWhile f = l.filter f
  | [], _ => rfl
  | a :: l, h => by
    rw [List.pairwise_cons] at h
    cases ha : f a with
    | true => rw [List.takeWhile_cons, List.filter_cons, ha, if_pos rfl, if_pos rfl, take_filter f l h.2]
    | false =>
      rw [List.takeWhile_cons, List.filter_cons, ha]
      simp only [Bool.false_eq_true, if_false]
      symm
      rw [List.filter_eq_nil_iff]
      intro y hy hf
      rw [h.1 y hy hf] at ha
      cases ha
/-- What a range of a list in order tells. -/
theorem range_filter {k : ByteArray} {ns P Q : List Nd} (ho : ns.Pairwise ltN) (hf : ∀ n ∈ ns, n.e.Fit) (hc : Cut k 18446744073709551615 ns P Q) (tk : ByteArray) :
    entsOf (upto tk Q) = (entsOf ns).filter fun e => !(Op.bytesLess e.k.toList k.toList) && (decide (tk.size = 0) || Op.bytesLess e.k.toList tk.toList) := by
  have hq : entsOf Q = (entsOf ns).filter fun e => !(Op.bytesLess e.k.toList k.toList) := by
    rw [cut_filter hc]
    apply List.filter_congr
    intro e he
    obtain ⟨n, hn, rfl⟩ := mem_entsOf.1 he
    rw [key_less n.e.k k n.e.s (hf n hn).2.2.2]
    simp
  have hsub : ∀ n ∈ Q, n ∈ ns := fun n hn => by rw [hc.all]; simp [hn]
  have hqo : Q.Pairwise ltN := by
    rw [hc.all] at ho
    exact (List.pairwise_append.1 ho).2.1
  have hu : entsOf (upto tk Q) = (entsOf Q).filter fun e => decide (tk.size = 0) || Op.bytesLess e.k.toList tk.toList := by
    by_cases h0 : tk.size = 0
    · rw [upto_all h0]
      symm
      rw [List.filter_eq_self]
      intro e _
      simp [h0]
    · have e1 : upto tk Q = Q.filter fun x => Op.bytesLess x.e.k.toList tk.toList := by
        unfold upto
        rw [if_neg h0]
        apply take_filter
        refine List.Pairwise.imp_of_mem ?_ hqo
        intro x y hx hy hxy h1
        rw [key_less y.e.k tk y.e.s (hf y (hsub y hy)).2.2.2] at h1
        rw [key_less x.e.k tk x.e.s (hf x (hsub x hx)).2.2.2]
        exact decide_eq_true (cmpE_trans _ _ _ _ _ _ hxy (of_decide_eq_true h1))
      rw [e1]
      simp only [h0, decide_false, Bool.false_or]
      unfold entsOf
      rw [List.filter_map]
      rfl
  rw [hu, hq, List.filter_filter]
  apply List.filter_congr
  intro e he
  rw [Bool.and_comm]
theorem memAdd_nil (first : Int) (v : Value) (w : World) : Calls Try.prog 20 #[.pointer none, .int .u64 first, v] w fun e w' => e = .returned (.tuple #[.int .u64 0, .int .i64 1]) ∧ w = w' := by
  go_enter Try.func20, Try.ntmps20
  go_wp2
  refine bodyPost_ret (results_tmp2 rfl _ _ _) rfl ?_
  exact ⟨rfl, rfl⟩
set_option maxHeartbeats 1000000 in
theorem memGet_nil (k : ByteArray) (s : Int) (w : World) : Calls Try.prog 21 #[.pointer none, .string k, .int .u64 s] w fun e w' => e = .returned (getV none) ∧ Below w.heap.size w w' := by
  obtain ⟨W, hW⟩ : ∃ W, w.alloc (.cells #[.string ⟨#[]⟩, .int .u64 0, .int .i64 0, .string ⟨#[]⟩] 30) = W := ⟨_, rfl⟩
  have hB : Below w.heap.size w W := by rw [← hW]; exact (Below.refl _ _).alloc (Nat.le_refl _) _
  have hx : Boxe w.heap.size ⟨#[]⟩ 0 0 ⟨#[]⟩ W := by rw [← hW]; exact new_block _ _ rfl
  have d0 := hx.c0
  have d1 := hx.c1
  have d2 := hx.c2
  have d3 := hx.c3
  have t0 := hx.f 0
  have t1 := hx.f 1
  have t2 := hx.f 2
  have t3 := hx.f 3
  go_enter Try.func21, Try.ntmps21
  go_wp2
  refine bodyPost_ret (v := getV none) (by simp [results, Try.results21, go_sem, d0, d1, d2, d3, getV, Ent.zero, Ent.val, ev]) rfl ?_
  exact ⟨rfl, (((hB.setCell (Nat.le_refl _) _).setCell (Nat.le_refl _) _).setCell (Nat.le_refl _) _).setCell (Nat.le_refl _) _⟩
theorem memRange_nil (k tk : ByteArray) (w : World) : Calls Try.prog 22 #[.pointer none, .string k, .string tk] w fun e w' => e = .returned (.slice none 0 0) ∧ w = w' := by
  go_enter Try.func22, Try.ntmps22
  go_wp2
  go_ret
  exact ⟨rfl, rfl⟩
theorem memSize_nil (w : World) : Calls Try.prog 23 #[.pointer none] w fun e w' => e = .returned (.int .i64 0) ∧ w = w' := by
  go_enter Try.func23, Try.ntmps23
  go_wp2
  go_ret
  exact ⟨rfl, rfl⟩
theorem memLen_nil (w : World) : Calls Try.prog 24 #[.pointer none] w fun e w' => e = .returned (.int .i64 0) ∧ w = w' := by
  go_enter Try.func24, Try.ntmps24
  go_wp2
  go_ret
  exact ⟨rfl, rfl⟩
theorem memLast_nil (w : World) : Calls Try.prog 25 #[.pointer none] w fun e w' => e = .returned (.int .u64 0) ∧ w = w' := by
  go_enter Try.func25, Try.ntmps25
  go_wp2
  go_ret
  exact ⟨rfl, rfl⟩
def wA : Wr := ⟨⟨#[97]⟩, ⟨#[]⟩, false⟩
def wD : Wr := ⟨⟨#[97]⟩, ⟨#[]⟩, true⟩
theorem tab_mem {B p : Nat} {ds : List Int} {w : World} (h : Tab B p ds [] 0 0 w) : Mem B p ds [] 0 [] w := ⟨h, by simp [entsOf], rfl, by simp⟩
theorem addAD {B p : Nat} {ds : List Int} {w : World} (h : Mem B p ds [] 0 [] w) (b cap : Nat) (hds : ds.length ≤ 1000000) (hb : b < w.heap.size) (hp : b ≠ p) (hc : ∀ j u, (#[.string ⟨#[97]⟩, .string ⟨#[]⟩, .bool false, .string ⟨#[97]⟩, .string ⟨#[]⟩, .bool true] : Array Value)[j]? = some u → w.cell? ⟨b, j, none⟩ = some u) :
    Calls Try.prog 20 #[.pointer (some ⟨p, 0, none⟩), .int .u64 5, .slice (some ⟨b, 0, none⟩) 2 cap] w fun e w' => e = .returned (.tuple #[.int .u64 7, .int .i64 0]) ∧ ∃ ns', Mem B p ds (vers 5 [wA, wD]) 6 ns' w' ∧ Turn (foot p []) w w' ∧ (∀ k ∈ foot p ns', k ∈ foot p [] ∨ w.heap.size ≤ k) ∧ Same13 p w w' := by
  have hy : addOk 0 5 [wA, wD] = true := addOk_of (by decide) (by omega) (by simp)
  have := memAdd_any h 5 (some ⟨b, 0, none⟩) 2 cap [wA, wD] ⟨rfl, .inr ⟨b, 0, rfl, hb, fun i hi j u hu => ?_⟩⟩ (fun x hx => ?_) (fun b' off e _ => ?_) (by omega) (by omega) (by simp) hds (by omega)
  · rw [(addOk_yes hy []).1, (addOk_yes hy []).2.1, (addOk_yes hy []).2.2] at this
    exact this
  · match i, hi with
    | 0, _ =>
      match j, hu with
      | 0, hu => exact (hc 0 _ rfl).trans hu
      | 1, hu => exact (hc 1 _ rfl).trans hu
      | 2, hu => exact (hc 2 _ rfl).trans hu
    | 1, _ =>
      match j, hu with
      | 0, hu => exact (hc 3 _ rfl).trans hu
      | 1, hu => exact (hc 4 _ rfl).trans hu
      | 2, hu => exact (hc 5 _ rfl).trans hu
  · simp at hx
    rcases hx with rfl | rfl <;> exact ⟨by unfold maxLen; decide, by unfold maxLen; decide⟩
  · cases e
    simpa [foot, hd] using hp
theorem versAD : vers 5 [wA, wD] = [⟨⟨#[97]⟩, 5, 1, ⟨#[]⟩⟩, ⟨⟨#[97]⟩, 6, 2, ⟨#[]⟩⟩] := rfl
theorem get5 {B p : Nat} {ds : List Int} {ns : List Nd} {w : World} (h : Mem B p ds (vers 5 [wA, wD]) 6 ns w) :
    Calls Try.prog 21 #[.pointer (some ⟨p, 0, none⟩), .string ⟨#[97]⟩, .int .u64 5] w fun e w' => e = .returned (.tuple #[.agg #[.string ⟨#[97]⟩, .int .u64 5, .int .i64 1, .string ⟨#[]⟩], .bool true]) ∧ Below w.heap.size w w' := by
  obtain ⟨P, Q, hc⟩ := cut_of ⟨#[97]⟩ 5 ns h.tab.skp.right.ord
  have hg := get_is (x := ⟨⟨#[97]⟩, 5, 1, ⟨#[]⟩⟩) h.tab.skp.right.ord hc ((h.mem _).2 (by rw [versAD]; simp)) rfl (Int.le_refl _) (fun e he hk hs => hs)
  have := memGet_any h.tab hc
  rw [hg] at this
  exact this
theorem get6 {B p : Nat} {ds : List Int} {ns : List Nd} {w : World} (h : Mem B p ds (vers 5 [wA, wD]) 6 ns w) :
    Calls Try.prog 21 #[.pointer (some ⟨p, 0, none⟩), .string ⟨#[97]⟩, .int .u64 6] w fun e w' => e = .returned (.tuple #[.agg #[.string ⟨#[97]⟩, .int .u64 6, .int .i64 2, .string ⟨#[]⟩], .bool true]) ∧ Below w.heap.size w w' := by
  obtain ⟨P, Q, hc⟩ := cut_of ⟨#[97]⟩ 6 ns h.tab.skp.right.ord
  have hg := get_is (x := ⟨⟨#[97]⟩, 6, 2, ⟨#[]⟩⟩) h.tab.skp.right.ord hc ((h.mem _).2 (by rw [versAD]; simp)) rfl (Int.le_refl _) (fun e he hk hs => hs)
  have := memGet_any h.tab hc
  rw [hg] at this
  exact this
theorem size34 {B p : Nat} {ds : List Int} {ns : List Nd} {w : World} (h : Mem B p ds (vers 5 [wA, wD]) 6 ns w) : Calls Try.prog 23 #[.pointer (some ⟨p, 0, none⟩)] w fun e w' => e = .returned (.int .i64 34) ∧ w = w' := memSize_any h.tab
theorem len2 {B p : Nat} {ds : List Int} {ns : List Nd} {w : World} (h : Mem B p ds (vers 5 [wA, wD]) 6 ns w) : Calls Try.prog 24 #[.pointer (some ⟨p, 0, none⟩)] w fun e w' => e = .returned (.int .i64 2) ∧ w = w' := by
  have := memLen_any h.tab
  rw [h.len] at this
  exact this
theorem last6 {B p : Nat} {ds : List Int} {ns : List Nd} {w : World} (h : Mem B p ds (vers 5 [wA, wD]) 6 ns w) : Calls Try.prog 25 #[.pointer (some ⟨p, 0, none⟩)] w fun e w' => e = .returned (.int .u64 6) ∧ w = w' := memLast_any h.tab
set_option maxHeartbeats 4000000 in
set_option maxRecDepth 100000 in
theorem alive8_any (w : World) : Calls Try.prog 19 #[] w fun e w' => e = .returned (.bool true) ∧ Below w.heap.size w w' := by
  obtain ⟨W, hW⟩ : ∃ W, w.alloc (.cells #[.int .i64 1, .int .i64 2] 3) = W := ⟨_, rfl⟩
  have hB : Below w.heap.size w W := by rw [← hW]; exact (Below.refl _ _).alloc (Nat.le_refl _) _
  have hI : IntsV W (.slice (some ⟨w.heap.size, 0, none⟩) 2 2) [1, 2] := intsV_plain w.heap.size 0 2 [1, 2] (fun j u hu => by
    rw [← hW]
    match j, hu with
    | 0, hu => exact ncell rfl hu
    | 1, hu => exact ncell rfl hu)
  have CN := Lib.hid (memNew_any _ [1, 2] W hI (by simp))
  have CA := Lib.hid (fun (p b cap : Nat) W' (h : Mem W.heap.size p [1, 2] [] 0 [] W') hb hp hc => addAD h b cap (by simp) hb hp hc)
  have C5 := Lib.hid (fun (p : Nat) ns W' (h : Mem W.heap.size p [1, 2] (vers 5 [wA, wD]) 6 ns W') => get5 h)
  have C6 := Lib.hid (fun (p : Nat) ns W' (h : Mem W.heap.size p [1, 2] (vers 5 [wA, wD]) 6 ns W') => get6 h)
  have CS := Lib.hid (fun (p : Nat) ns W' (h : Mem W.heap.size p [1, 2] (vers 5 [wA, wD]) 6 ns W') => size34 h)
  have CL := Lib.hid (fun (p : Nat) ns W' (h : Mem W.heap.size p [1, 2] (vers 5 [wA, wD]) 6 ns W') => len2 h)
  have CT := Lib.hid (fun (p : Nat) ns W' (h : Mem W.heap.size p [1, 2] (vers 5 [wA, wD]) 6 ns W') => last6 h)
  have HB := Lib.hid hB
  clear hB hI
  go_enter Try.func19, Try.ntmps19
  go_wp2_with fail
  (with_reducible refine CN.out.mono ?_)
  rintro e w1 ⟨p, rfl, ht, hb1⟩
  clear hW
  have H1 := Lib.hid (tab_mem ht)
  have HB1 := Lib.hid hb1
  have hp1 := ht.hdlt
  have hpB := ht.base
  clear ht hb1
  have hb2 : Below w1.heap.size w1 (w1.alloc (.cells #[.string ⟨#[97]⟩, .string ⟨#[]⟩, .bool false, .string ⟨#[97]⟩, .string ⟨#[]⟩, .bool true] 52)) := (Below.refl _ _).alloc (Nat.le_refl _) _
  have HB2 := Lib.hid hb2
  clear hb2
  go_wp2_with fail
  (with_reducible refine (CA.out p _ _ _ (H1.out.below HB2.out) (by simp) (by omega) (fun j u hu => ncell rfl hu)).mono ?_)
  rintro e w2 ⟨rfl, ns, hm2, ht2, -⟩
  have H2 := Lib.hid hm2
  have HT2 := Lib.hid ht2
  clear hm2 ht2
  go_wp2_with fail
  (with_reducible refine (C5.out p ns _ H2.out).mono ?_)
  rintro e w3 ⟨rfl, hb3⟩
  have H3 := Lib.hid (H2.out.below hb3)
  have HB3 := Lib.hid hb3
  clear hb3
  go_wp2_with fail
  obtain ⟨W4, hW4⟩ : ∃ W4, w3.alloc (.cells #[.string ⟨#[97]⟩, .int .u64 5, .int .i64 1, .string ⟨#[]⟩] 30) = W4 := ⟨_, rfl⟩
  have hb4 : Below w3.heap.size w3 W4 := by rw [← hW4]; exact (Below.refl _ _).alloc (Nat.le_refl _) _
  have hx4 : Boxe w3.heap.size ⟨#[97]⟩ 5 1 ⟨#[]⟩ W4 := by rw [← hW4]; exact new_block _ _ rfl
  have H4 := Lib.hid (H3.out.below hb4)
  have HB4 := Lib.hid hb4
  have HX4 := Lib.hid hx4
  rw [hW4]
  clear hb4 hx4 hW4
  (with_reducible refine (C6.out p ns _ H4.out).mono ?_)
  rintro e w5 ⟨rfl, hb5⟩
  have H5 := Lib.hid (H4.out.below hb5)
  have HX5 := Lib.hid (HX4.out.below hb5)
  have HB5 := Lib.hid hb5
  clear hb5
  go_upto_region 7 with fail
  obtain ⟨W6, hW6⟩ : ∃ W6, w5.alloc (.cells #[.string ⟨#[97]⟩, .int .u64 6, .int .i64 2, .string ⟨#[]⟩] 30) = W6 := ⟨_, rfl⟩
  have hb6 : Below w5.heap.size w5 W6 := by rw [← hW6]; exact (Below.refl _ _).alloc (Nat.le_refl _) _
  have hx6 : Boxe w5.heap.size ⟨#[97]⟩ 6 2 ⟨#[]⟩ W6 := by rw [← hW6]; exact new_block _ _ rfl
  have H6 := Lib.hid (H5.out.below hb6)
  have hx5 := HX5.out.below hb6
  have k1 := hx5.c1
  have k2 := hx6.c2
  have HB6 := Lib.hid hb6
  rw [hW6]
  clear hb6 hx6 hx5 hW6
  go_wp2_with (first | (go_at_call 23; (with_reducible refine (CS.out p ns _ H6.out).mono ?_); rintro e w7 ⟨rfl, rfl⟩) | (go_at_call 24; (with_reducible refine (CL.out p ns _ H6.out).mono ?_); rintro e w7 ⟨rfl, rfl⟩) | (go_at_call 25; (with_reducible refine (CT.out p ns _ H6.out).mono ?_); rintro e w7 ⟨rfl, rfl⟩) | fail)
  go_ret
  refine ⟨rfl, ?_⟩
  have s0 := HB.out.size
  have s1 := HB1.out.size
  have s2 := HB2.out.size
  have s3 := HT2.out.size
  have s4 := HB3.out.size
  have s5 := HB4.out.size
  have s6 := HB5.out.size
  have hb1 : Below w.heap.size w w1 := HB.out.trans (HB1.out.mono s0)
  have hb2 := hb1.trans (HB2.out.mono (by omega))
  have hb3 := hb2.trans (HT2.out.below (by omega) (fun k hk => by simp [foot, hd] at hk; omega))
  have hb4 := hb3.trans (HB3.out.mono (by omega))
  have hb5 := hb4.trans (HB4.out.mono (by omega))
  have hb6 := hb5.trans (HB5.out.mono (by omega))
  exact hb6.trans (HB6.out.mono (by omega))
end Go.Proofs.Ythaalhigmihijab
