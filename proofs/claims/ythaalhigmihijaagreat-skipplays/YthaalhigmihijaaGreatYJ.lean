/- What From, All and Path tell, as rows of one's own. -/
import Derived.Test.YthaalhigmihijaaGreatYI
import Derived.Test.YthaalhigmihijaaGreatAaIE
namespace Go.Proofs.YthaalhigmihijaaGreat
open Go.RowKit

theorem row_owns {w : World} {e : TypeId} {size B : Nat} {v : Value} {n : Nat} {xs : List Value} (h : Row w e size v n xs) (h0 : n = 0 → v = .slice none 0 0) (hb : ∀ b, ob v = some b → B ≤ b) : w.ownsRow B e size v n xs := by
  refine ⟨h.1, ?_⟩
  rcases h.2 with ⟨hn, -⟩ | ⟨g, cap, cur, rfl, hg, h1, h2, h3, h4⟩
  · exact .inl ⟨h0 hn, hn⟩
  · exact .inr ⟨g, cap + 1, cur, rfl, hb g rfl, hg, h1, h2, h3, h4⟩
def elOf (x : Ent) : ElEntries := ⟨x.k, x.s.toNat, x.n, x.v⟩
theorem cells_el : ∀ (l : List Ent), (∀ x ∈ l, 0 ≤ x.s) → cellsEntries (l.map elOf) = cellsE l
  | [], _ => rfl
  | x :: l, h => by
    have ih := cells_el l (fun y hy => h y (List.mem_cons_of_mem _ hy))
    have hx := h x (by simp)
    have e : ((x.s.toNat : Nat) : Int) = x.s := by omega
    rw [List.map_cons]
    have h1 : cellsEntries (elOf x :: l.map elOf) = cellsEntries [elOf x] ++ cellsEntries (l.map elOf) := by rw [← cellsEntries_append]; rfl
    have h2 : cellsE (x :: l) = x.cells ++ cellsE l := by simp [cellsE]
    rw [h1, h2, ih]
    congr 1
    simp [cellsEntries, ElEntries.cells, elOf, Ent.cells, e]
theorem upto_empty {tk : ByteArray} {x : Nd} {r : List Nd} (h : upto tk (x :: r) = []) : tk.size ≠ 0 ∧ Op.bytesLess x.e.k.toList tk.toList = false := by
  by_cases h1 : tk.size = 0 ∨ Op.bytesLess x.e.k.toList tk.toList = true
  · rw [upto_yes h1] at h
    cases h
  · refine ⟨fun e => h1 (.inl e), ?_⟩
    cases hq : Op.bytesLess x.e.k.toList tk.toList with
    | false => rfl
    | true => exact absurd (.inr hq) h1
set_option maxHeartbeats 1000000 in
set_option maxRecDepth 100000 in
theorem between_empty {p c : Nat} {ns P Q : List Nd} {k : ByteArray} (tk : ByteArray) {w : World} (h : Lst p c ns w) (hr : Right ns) (hc : Cut k 18446744073709551615 ns P Q) (h0 : upto tk Q = []) :
    Calls Tryz.prog 31 #[.pointer (some ⟨p, 0, none⟩), .string k, .string tk] w fun e w' => e = .returned (.slice none 0 0) ∧ Below w.heap.size w w' := by
  have C := Lib.hid (first_any 0 ⟨#[]⟩ h hr hc)
  unfold ev at C
  cases Q with
  | nil =>
    rw [show fol 0 [] = .pointer none from rfl] at C
    clear h hr hc h0
    go_enter Tryz.func31, Tryz.ntmps31
    go_wp2_with (first | (go_at_call 34; (with_reducible refine C.out.mono ?_); rintro e w1 ⟨rfl, hb⟩) | fail)
    refine wp_loop_rounds 1 ?_
    rw [rounds_succ]
    go_wp2
    go_ret
    exact ⟨rfl, hb⟩
  | cons x r =>
    obtain ⟨hts, hbl2⟩ := upto_empty h0
    have hne : tk.toList.isEmpty = false := to_ne hts
    rw [fol0 (fun n hn => hr.lev n (by rw [hc.all]; exact List.mem_append.2 (.inr hn))), show headP (x :: r) = .pointer (some ⟨x.a, 0, none⟩) from rfl] at C
    have HN := Lib.hid (show ∀ w', Below w.heap.size w w' → w'.cell? ⟨x.a, 0, none⟩ = some (.string x.e.k) from fun w' hb => ((h.below hb).chain (hd p :: P) x r (by rw [hc.all]; simp)).c0)
    clear h hr hc h0 hts
    go_enter Tryz.func31, Tryz.ntmps31
    go_wp2_with (first | (go_at_call 34; (with_reducible refine C.out.mono ?_); rintro e w1 ⟨rfl, hb⟩; have c0 := HN.out w1 hb) | fail)
    refine wp_loop_rounds 1 ?_
    rw [rounds_succ]
    go_wp2
    go_ret
    exact ⟨rfl, hb⟩
theorem between_own {p c : Nat} {ns P Q : List Nd} {k : ByteArray} (tk : ByteArray) {w : World} (h : Lst p c ns w) (hr : Right ns) (hc : Cut k 18446744073709551615 ns P Q) (hl : ns.length ≤ 1000000) :
    Calls Tryz.prog 31 #[.pointer (some ⟨p, 0, none⟩), .string k, .string tk] w fun e w' => ∃ v, e = .returned v ∧ Row w' 32 4 v (entsOf (upto tk Q)).length (cellsE (entsOf (upto tk Q))) ∧ (rwEntries (v, (entsOf (upto tk Q)).map elOf)).ok w.heap.size w' ∧ Below w.heap.size w w' := by
  have hsub : ∀ n ∈ upto tk Q, n ∈ Q := fun n hn => by
    unfold upto at hn
    split at hn
    · exact hn
    · exact List.takeWhile_subset _ hn
  have hs : ∀ x ∈ entsOf (upto tk Q), 0 ≤ x.s := fun x hx => by
    obtain ⟨n, hn, rfl⟩ := mem_entsOf.1 hx
    exact (hr.fit n (by rw [hc.all]; simp [hsub n hn])).2.2.1
  have key : ∀ {w' : World} {v : Value}, Row w' 32 4 v (entsOf (upto tk Q)).length (cellsE (entsOf (upto tk Q))) → ((entsOf (upto tk Q)).length = 0 → v = .slice none 0 0) → (∀ b, ob v = some b → w.heap.size ≤ b) → (rwEntries (v, (entsOf (upto tk Q)).map elOf)).ok w.heap.size w' := fun h1 h2 h3 => by
    have := row_owns h1 h2 h3
    show World.ownsRow _ _ _ _ _ _ _
    simp only [rwEntries, List.length_map, cells_el _ hs]
    exact this
  cases hu : upto tk Q with
  | nil =>
    refine (between_empty tk h hr hc hu).mono ?_
    rintro e w' ⟨rfl, hb⟩
    rw [hu] at key
    exact ⟨_, rfl, row_nil _ _ _, key (row_nil _ _ _) (fun _ => rfl) (fun b hb => by simp [ob] at hb), hb⟩
  | cons q r =>
    refine (between_any tk h hr hc hl).mono ?_
    rintro e w' ⟨v, rfl, h1, h2, hb⟩
    rw [hu] at h1 key
    exact ⟨v, rfl, h1, key h1 (fun h0 => by simp [entsOf] at h0) h2, hb⟩
set_option maxHeartbeats 1000000 in
set_option maxRecDepth 100000 in
theorem path_empty {p c : Nat} {w : World} {ns : List Nd} (k : ByteArray) (h : Lst p c ns w) (h0 : hgt ns = 0) :
    Calls Tryz.prog 19 #[.pointer (some ⟨p, 0, none⟩), .string k] w fun e w' => e = .returned (.slice none 0 0) ∧ Below w.heap.size w w' := by
  have C := Lib.hid (height_any h)
  rw [h0] at C
  clear h h0
  go_enter Tryz.func19, Tryz.ntmps19
  go_wp2_with (first | (go_at_call 23; (with_reducible refine C.out.mono ?_); rintro e w1 ⟨rfl, rfl⟩) | fail)
  refine wp_loop_rounds 1 ?_
  rw [rounds_succ]
  go_wp2
  go_ret
  exact ⟨rfl, Below.refl _ _⟩
theorem from_own {p c : Nat} {ns P Q : List Nd} {k : ByteArray} {w : World} (h : Lst p c ns w) (hr : Right ns) (hc : Cut k 18446744073709551615 ns P Q) (hl : ns.length ≤ 1000000) :
    Calls Tryz.prog 12 #[.pointer (some ⟨p, 0, none⟩), .string k] w fun e w' => ∃ v, e = .returned v ∧ Row w' 32 4 v (entsOf Q).length (cellsE (entsOf Q)) ∧ (rwEntries (v, (entsOf Q).map elOf)).ok w.heap.size w' ∧ Below w.heap.size w w' := by
  have C := between_own ⟨#[]⟩ h hr hc hl
  rw [upto_all rfl] at C
  have C := Lib.hid C
  clear h hr hc
  go_enter Tryz.func12, Tryz.ntmps12
  go_wp2_with (first | (go_at_call 31; (with_reducible refine C.out.mono ?_); rintro e w1 ⟨v, rfl, hv, ho, hb⟩) | fail)
  go_ret
  exact ⟨v, rfl, hv, ho, hb⟩
theorem all_own {p c : Nat} {ns : List Nd} {w : World} (h : Lst p c ns w) (hr : Right ns) (hl : ns.length ≤ 1000000) :
    Calls Tryz.prog 11 #[.pointer (some ⟨p, 0, none⟩)] w fun e w' => ∃ v, e = .returned v ∧ Row w' 32 4 v (entsOf ns).length (cellsE (entsOf ns)) ∧ (rwEntries (v, (entsOf ns).map elOf)).ok w.heap.size w' ∧ Below w.heap.size w w' := by
  have C := Lib.hid (from_own (k := ⟨#[]⟩) (P := []) (Q := ns) h hr ⟨rfl, by simp, fun x hx => cmp_none _ _ (hr.fit x hx).2.2.2⟩ hl)
  clear h hr
  go_enter Tryz.func11, Tryz.ntmps11
  go_wp2_with (first | (go_at_call 12; (with_reducible refine C.out.mono ?_); rintro e w1 ⟨v, rfl, hv, ho, hb⟩) | fail)
  go_ret
  exact ⟨v, rfl, hv, ho, hb⟩
/-- Path's numbers. -/
def pathZ (P : List Nd) (h : Nat) : List Int := (List.range h).map fun j => ((pcnt (h - 1 - j) P : Nat) : Int)
theorem pathZ_cells (P : List Nd) (h : Nat) : cellsInts (pathZ P h) = pathL P h h := by
  unfold cellsInts pathZ pathL
  rw [List.map_map]
  rfl
theorem path_own {p c : Nat} {ns P Q : List Nd} {k : ByteArray} {w : World} (h : Lst p c ns w) (hc : Cut k 18446744073709551615 ns P Q) (hf : ∀ n ∈ ns, n.e.Fit) (hl : ns.length ≤ 1000000) :
    Calls Tryz.prog 19 #[.pointer (some ⟨p, 0, none⟩), .string k] w fun e w' => ∃ v, e = .returned v ∧ (rwInts (v, pathZ P (hgt ns))).ok w.heap.size w' ∧ Below w.heap.size w w' := by
  by_cases h0 : hgt ns = 0
  · refine (path_empty k h h0).mono ?_
    rintro e w' ⟨rfl, hb⟩
    refine ⟨_, rfl, ?_, hb⟩
    rw [h0]
    exact World.ownsRow_nil _ _ _ _
  · refine (path_any h hc hf hl).mono ?_
    rintro e w' ⟨v, rfl, h1, h2, hb⟩
    refine ⟨v, rfl, ?_, hb⟩
    have := row_owns h1 (fun e => absurd e h0) h2
    show World.ownsRow _ _ _ _ _ _ _
    simp only [rwInts, pathZ_cells]
    rw [show (pathZ P (hgt ns)).length = hgt ns by simp [pathZ]]
    exact this
end Go.Proofs.YthaalhigmihijaaGreat
