/- What From, All and Path tell, as rows of one's own. -/
import Derived.Test.YthlkiegbijddcaaGreatYI
import Derived.Test.YthlkiegbijddcaaGreatAaIE
namespace Go.Proofs.YthlkiegbijddcaaGreat
open Go.RowKit

theorem row_owns {w : World} {e : TypeId} {size B : Nat} {v : Value} {n : Nat} {xs : List Value} (h : Row w e size v n xs) (h0 : n = 0 → v = .slice none 0 0) (hb : ∀ b, ob v = some b → B ≤ b) : w.ownsRow B e size v n xs := by
  refine ⟨h.1, ?_⟩
  rcases h.2 with ⟨hn, -⟩ | ⟨g, cap, cur, rfl, hg, h1, h2, h3, h4⟩
  · exact .inl ⟨h0 hn, hn⟩
  · exact .inr ⟨g, cap + 1, cur, rfl, hb g rfl, hg, h1, h2, h3, h4⟩
def elOf (x : Ent) : ElEntries := ⟨x.k, x.s.toNat, x.n, x.v⟩
theorem cells_el : ∀ (l : List Ent), (∀ x ∈ l, 0 ≤ x.s) → cellsEntries (l.map elOf) = cellsE l
  | [], _ => rfl
  | x :: l, h => by
    have ih := cells_el l (fun y hy => h y (List.mem_cons_of_mem _ hy))
    have hx := h x (by simp)
    have e : ((x.s.toNat : Nat) : Int) = x.s := by omega
    rw [List.map_cons]
    have h1 : cellsEntries (elOf x :: l.map elOf) = cellsEntries [elOf x] ++ cellsEntries (l.map elOf) := by rw [← cellsEntries_append]; rfl
    have h2 : cellsE (x :: l) = x.cells ++ cellsE l := by simp [cellsE]
    rw [h1, h2, ih]
    congr 1
    simp [cellsEntries, ElEntries.cells, elOf, Ent.cells, e]
set_option maxHeartbeats 1000000 in
set_option maxRecDepth 100000 in
theorem from_empty {p c : Nat} {ns P : List Nd} {k : ByteArray} {w : World} (h : Lst p c ns w) (hr : Right ns) (hc : Cut k 18446744073709551615 ns P []) :
    Calls Tryz.prog 12 #[.pointer (some ⟨p, 0, none⟩), .string k] w fun e w' => e = .returned (.slice none 0 0) ∧ Below w.heap.size w w' := by
  have C := Lib.hid (first_any 0 ⟨#[]⟩ h hr hc)
  rw [show fol 0 [] = .pointer none from rfl] at C
  unfold ev at C
  clear h hr hc
  go_enter Tryz.func12, Tryz.ntmps12
  go_wp2_with (first | (go_at_call 31; (with_reducible refine C.out.mono ?_); rintro e w1 ⟨rfl, hb⟩) | fail)
  refine wp_loop_rounds 1 ?_
  rw [rounds_succ]
  go_wp2
  go_ret
  exact ⟨rfl, hb⟩
set_option maxHeartbeats 1000000 in
set_option maxRecDepth 100000 in
theorem path_empty {p c : Nat} {w : World} {ns : List Nd} (k : ByteArray) (h : Lst p c ns w) (h0 : hgt ns = 0) :
    Calls Tryz.prog 19 #[.pointer (some ⟨p, 0, none⟩), .string k] w fun e w' => e = .returned (.slice none 0 0) ∧ Below w.heap.size w w' := by
  have C := Lib.hid (height_any h)
  rw [h0] at C
  clear h h0
  go_enter Tryz.func19, Tryz.ntmps19
  go_wp2_with (first | (go_at_call 23; (with_reducible refine C.out.mono ?_); rintro e w1 ⟨rfl, rfl⟩) | fail)
  refine wp_loop_rounds 1 ?_
  rw [rounds_succ]
  go_wp2
  go_ret
  exact ⟨rfl, Below.refl _ _⟩
theorem from_own {p c : Nat} {ns P Q : List Nd} {k : ByteArray} {w : World} (h : Lst p c ns w) (hr : Right ns) (hc : Cut k 18446744073709551615 ns P Q) (hl : ns.length ≤ 1000000) :
    Calls Tryz.prog 12 #[.pointer (some ⟨p, 0, none⟩), .string k] w fun e w' => ∃ v, e = .returned v ∧ Row w' 32 4 v (entsOf Q).length (cellsE (entsOf Q)) ∧ (rwEntries (v, (entsOf Q).map elOf)).ok w.heap.size w' ∧ Below w.heap.size w w' := by
  have hs : ∀ x ∈ entsOf Q, 0 ≤ x.s := fun x hx => by
    obtain ⟨n, hn, rfl⟩ := mem_entsOf.1 hx
    exact (hr.fit n (by rw [hc.all]; simp [hn])).2.2.1
  have key : ∀ {w' : World} {v : Value}, Row w' 32 4 v (entsOf Q).length (cellsE (entsOf Q)) → ((entsOf Q).length = 0 → v = .slice none 0 0) → (∀ b, ob v = some b → w.heap.size ≤ b) → (rwEntries (v, (entsOf Q).map elOf)).ok w.heap.size w' := fun h1 h2 h3 => by
    have := row_owns h1 h2 h3
    show World.ownsRow _ _ _ _ _ _ _
    simp only [rwEntries, List.length_map, cells_el _ hs]
    exact this
  cases Q with
  | nil =>
    refine (from_empty h hr hc).mono ?_
    rintro e w' ⟨rfl, hb⟩
    exact ⟨_, rfl, row_nil _ _ _, key (row_nil _ _ _) (fun _ => rfl) (fun b hb => by simp [ob] at hb), hb⟩
  | cons q r =>
    refine (from_any h hr hc hl).mono ?_
    rintro e w' ⟨v, rfl, h1, h2, hb⟩
    exact ⟨v, rfl, h1, key h1 (fun h0 => by simp [entsOf] at h0) h2, hb⟩
theorem all_own {p c : Nat} {ns : List Nd} {w : World} (h : Lst p c ns w) (hr : Right ns) (hl : ns.length ≤ 1000000) :
    Calls Tryz.prog 11 #[.pointer (some ⟨p, 0, none⟩)] w fun e w' => ∃ v, e = .returned v ∧ Row w' 32 4 v (entsOf ns).length (cellsE (entsOf ns)) ∧ (rwEntries (v, (entsOf ns).map elOf)).ok w.heap.size w' ∧ Below w.heap.size w w' := by
  have C := Lib.hid (from_own (k := ⟨#[]⟩) (P := []) (Q := ns) h hr ⟨rfl, by simp, fun x hx => cmp_none _ _ (hr.fit x hx).2.2.2⟩ hl)
  clear h hr
  go_enter Tryz.func11, Tryz.ntmps11
  go_wp2_with (first | (go_at_call 12; (with_reducible refine C.out.mono ?_); rintro e w1 ⟨v, rfl, hv, ho, hb⟩) | fail)
  go_ret
  exact ⟨v, rfl, hv, ho, hb⟩
/-- Path's numbers. -/
def pathZ (P : List Nd) (h : Nat) : List Int := (List.range h).map fun j => ((pcnt (h - 1 - j) P : Nat) : Int)
theorem pathZ_cells (P : List Nd) (h : Nat) : cellsInts (pathZ P h) = pathL P h h := by
  unfold cellsInts pathZ pathL
  rw [List.map_map]
  rfl
theorem path_own {p c : Nat} {ns P Q : List Nd} {k : ByteArray} {w : World} (h : Lst p c ns w) (hc : Cut k 18446744073709551615 ns P Q) (hf : ∀ n ∈ ns, n.e.Fit) (hl : ns.length ≤ 1000000) :
    Calls Tryz.prog 19 #[.pointer (some ⟨p, 0, none⟩), .string k] w fun e w' => ∃ v, e = .returned v ∧ (rwInts (v, pathZ P (hgt ns))).ok w.heap.size w' ∧ Below w.heap.size w w' := by
  by_cases h0 : hgt ns = 0
  · refine (path_empty k h h0).mono ?_
    rintro e w' ⟨rfl, hb⟩
    refine ⟨_, rfl, ?_, hb⟩
    rw [h0]
    exact World.ownsRow_nil _ _ _ _
  · refine (path_any h hc hf hl).mono ?_
    rintro e w' ⟨v, rfl, h1, h2, hb⟩
    refine ⟨v, rfl, ?_, hb⟩
    have := row_owns h1 (fun e => absurd e h0) h2
    show World.ownsRow _ _ _ _ _ _ _
    simp only [rwInts, pathZ_cells]
    rw [show (pathZ P (hgt ns)).length = hgt ns by simp [pathZ]]
    exact this
end Go.Proofs.YthlkiegbijddcaaGreat
