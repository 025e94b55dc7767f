/- What From, All and Path tell, as rows of one's own. -/
import Derived.Test.YthaalhigmihijabGreatYI
import Derived.Test.YthaalhigmihijabGreatAaIE
namespace Go.Proofs.YthaalhigmihijabGreat
open Go.RowKit

theorem row_owns {w : World} {e : TypeId} {size B : Nat} {v : Value} {n : Nat} {xs : List Value} (h : Row w e size v n xs) (h0 : n = 0 → v = .slice none 0 0) (hb : ∀ b, ob v = some b → B ≤ b) : w.ownsRow B e size v n xs := by
  refine ⟨h.1, ?_⟩
  rcases h.2 with ⟨hn, -⟩ | ⟨g, cap, cur, rfl, hg, h1, h2, h3, h4⟩
  · exact .inl ⟨h0 hn, hn⟩
  · exact .inr ⟨g, cap + 1, cur, rfl, hb g rfl, hg, h1, h2, h3, h4⟩
def elOf (x : Ent) : ElEntries := ⟨x.k, x.s.toNat, x.n, x.v⟩
theorem cells_el : ∀ (l : List Ent), (∀ x ∈ l, 0 ≤ x.s) → cellsEntries (l.map elOf) = cellsE l
  | [], _ => rfl
  | x :: l, h => by
    have ih := cells_el l (fun y hy => h y (List.mem_cons_of_mem _ hy))
    have hx := h x (by simp)
    have e : ((x.s.toNat : Nat) : Int) = x.s := by omega
    rw [List.map_cons]
    have h1 : cellsEntries (elOf x :: l.map elOf) = cellsEntries [elOf x] ++ cellsEntries (l.map elOf) := by rw [← cellsEntries_append]; rfl
    have h2 : cellsE (x :: l) = x.cells ++ cellsE l := by simp [cellsE]
    rw [h1, h2, ih]
    congr 1
    simp [cellsEntries, ElEntries.cells, elOf, Ent.cells, e]
theorem upto_empty {tk : ByteArray} {x : Nd} {r : List Nd} (h : upto tk (x :: r) = []) : tk.size ≠ 0 ∧ Op.bytesLess x.e.k.toList tk.toList = false := by
  by_cases h1 : tk.size = 0 ∨ Op.bytesLess x.e.k.toList tk.toList = true
  · rw [upto_yes h1] at h
    cases h
  · refine ⟨fun e => h1 (.inl e), ?_⟩
    cases hq : Op.bytesLess x.e.k.toList tk.toList with
    | false => rfl
    | true => exact absurd (.inr hq) h1
set_option maxHeartbeats 1000000 in
set_option maxRecDepth 100000 in
theorem between_empty {p c : Nat} {ns P Q : List Nd} {k : ByteArray} (tk : ByteArray) {w : World} (h : Lst p c ns w) (hr : Right ns) (hc : Cut k 18446744073709551615 ns P Q) (h0 : upto tk Q = []) :
    Calls Tryz.prog 33 #[.pointer (some ⟨p, 0, none⟩), .string k, .string tk] w fun e w' => e = .returned (.slice none 0 0) ∧ Below w.heap.size w w' := by
  have C := Lib.hid (first_any 0 ⟨#[]⟩ h hr hc)
  unfold ev at C
  cases Q with
  | nil =>
    rw [show fol 0 [] = .pointer none from rfl] at C
    clear h hr hc h0
    go_enter Tryz.func33, Tryz.ntmps33
    go_wp2_with (first | (go_at_call 107; (with_reducible refine C.out.mono ?_); rintro e w1 ⟨rfl, hb⟩) | fail)
    refine wp_loop_rounds 1 ?_
    rw [rounds_succ]
    go_wp2
    go_ret
    exact ⟨rfl, hb⟩
  | cons x r =>
    obtain ⟨hts, hbl2⟩ := upto_empty h0
    have hne : tk.toList.isEmpty = false := to_ne hts
    rw [fol0 (fun n hn => hr.lev n (by rw [hc.all]; exact List.mem_append.2 (.inr hn))), show headP (x :: r) = .pointer (some ⟨x.a, 0, none⟩) from rfl] at C
    have HN := Lib.hid (show ∀ w', Below w.heap.size w w' → w'.cell? ⟨x.a, 0, none⟩ = some (.string x.e.k) from fun w' hb => ((h.below hb).chain (hd p :: P) x r (by rw [hc.all]; simp)).c0)
    clear h hr hc h0 hts
    go_enter Tryz.func33, Tryz.ntmps33
    go_wp2_with (first | (go_at_call 107; (with_reducible refine C.out.mono ?_); rintro e w1 ⟨rfl, hb⟩; have c0 := HN.out w1 hb) | fail)
    refine wp_loop_rounds 1 ?_
    rw [rounds_succ]
    go_wp2
    go_ret
    exact ⟨rfl, hb⟩
theorem between_own {p c : Nat} {ns P Q : List Nd} {k : ByteArray} (tk : ByteArray) {w : World} (h : Lst p c ns w) (hr : Right ns) (hc : Cut k 18446744073709551615 ns P Q) (hl : ns.length ≤ 1000000) :
    Calls Tryz.prog 33 #[.pointer (some ⟨p, 0, none⟩), .string k, .string tk] w fun e w' => ∃ v, e = .returned v ∧ Row w' 34 4 v (entsOf (upto tk Q)).length (cellsE (entsOf (upto tk Q))) ∧ (rwEntries (v, (entsOf (upto tk Q)).map elOf)).ok w.heap.size w' ∧ Below w.heap.size w w' := by
  have hsub : ∀ n ∈ upto tk Q, n ∈ Q := fun n hn => by
    unfold upto at hn
    split at hn
    · exact hn
    · exact List.takeWhile_subset _ hn
  have hs : ∀ x ∈ entsOf (upto tk Q), 0 ≤ x.s := fun x hx => by
    obtain ⟨n, hn, rfl⟩ := mem_entsOf.1 hx
    exact (hr.fit n (by rw [hc.all]; simp [hsub n hn])).2.2.1
  have key : ∀ {w' : World} {v : Value}, Row w' 34 4 v (entsOf (upto tk Q)).length (cellsE (entsOf (upto tk Q))) → ((entsOf (upto tk Q)).length = 0 → v = .slice none 0 0) → (∀ b, ob v = some b → w.heap.size ≤ b) → (rwEntries (v, (entsOf (upto tk Q)).map elOf)).ok w.heap.size w' := fun h1 h2 h3 => by
    have := row_owns h1 h2 h3
    show World.ownsRow _ _ _ _ _ _ _
    simp only [rwEntries, List.length_map, cells_el _ hs]
    exact this
  cases hu : upto tk Q with
  | nil =>
    refine (between_empty tk h hr hc hu).mono ?_
    rintro e w' ⟨rfl, hb⟩
    rw [hu] at key
    exact ⟨_, rfl, row_nil _ _ _, key (row_nil _ _ _) (fun _ => rfl) (fun b hb => by simp [ob] at hb), hb⟩
  | cons q r =>
    refine (between_any tk h hr hc hl).mono ?_
    rintro e w' ⟨v, rfl, h1, h2, hb⟩
    rw [hu] at h1 key
    exact ⟨v, rfl, h1, key h1 (fun h0 => by simp [entsOf] at h0) h2, hb⟩
end Go.Proofs.YthaalhigmihijabGreat
