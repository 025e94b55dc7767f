/- Joined: TA TC TP TZ TY TJ. -/
import Derived.Test.YtmnboiikopkaoaaGreatBB
import Derived.Test.YtmnboiikopkaoaaGreatBC
import Derived.Test.YtmnboiikopkaoaaGreatVG1
import Derived.Test.YtmnboiikopkaoaaGreatBE
import Derived.Test.YtmnboiikopkaoaaGreatBW
import Derived.Test.YtmnboiikopkaoaaGreatRA
namespace Go.Proofs.YtmnboiikopkaoaaGreat
open Go.RowKit

/-- The versions of a table's block. -/
def chunkT (es : List Ent) (k : Nat) : List Ent := (es.drop (8 * k)).take 8
/-- How many blocks there are. -/
def numT (es : List Ent) : Nat := (es.length + 7) / 8
/-- The first k blocks. -/
def blksT (es : List Ent) : Nat → List UInt8
  | 0 => []
  | k + 1 => blksT es k ++ blkB (chunkT es k)
def keyT (es : List Ent) (i : Nat) : ByteArray := (entAt es i).k
def textT (s : ByteArray) : List UInt8 := Lib.uvarint s.size ++ s.data.toList
/-- What the index says of the first k blocks. -/
def idxT (es : List Ent) : Nat → List UInt8
  | 0 => []
  | k + 1 => idxT es k ++ (textT (keyT es (8 * k)) ++ vars [(blksT es k).length, (blkB (chunkT es k)).length])
/-- The keys of the first k versions, each once. -/
def keysT (es : List Ent) : Nat → List ByteArray
  | 0 => []
  | k + 1 => if k = 0 ∨ keyT es (k - 1) ≠ keyT es k then keysT es k ++ [keyT es k] else keysT es k
def filT (es : List Ent) : List UInt8 := sealF (mkB 10 4 (keysT es es.length))
def indT (es : List Ent) : List UInt8 := sealF (Lib.uvarint (numT es) ++ idxT es (numT es) ++ Lib.uvarint es.length ++ textT (keyT es (es.length - 1)))
def footT (es : List Ent) : List UInt8 := be (blksT es (numT es)).length 6 ++ be (filT es).length 6 ++ be ((blksT es (numT es)).length + (filT es).length) 6 ++ be (indT es).length 6
/-- A table's bytes. -/
def tabB (es : List Ent) : List UInt8 := blksT es (numT es) ++ filT es ++ indT es ++ sealF (footT es)
theorem ordB_all {l : List Ent} : ∀ {n : Nat}, (∀ i, i < n → vldE (entAt l i) = true ∧ (0 < i → cmpN (entAt l (i - 1)) (entAt l i) < 0)) → ordB l n = true
  | 0, _ => rfl
  | n + 1, h => by
    show (ordB l n && _) = true
    rw [ordB_all (fun i hi => h i (by omega)), Bool.true_and]
    have := h n (by omega)
    rw [this.1, Bool.true_and, Bool.or_eq_true, decide_eq_true_eq, decide_eq_true_eq]
    by_cases h0 : n = 0
    · exact .inl h0
    · exact .inr (this.2 (by omega))
theorem entAt_piece (es : List Ent) (a m i : Nat) (h : i < m) : entAt ((es.drop a).take m) i = entAt es (a + i) := by
  unfold entAt
  rw [List.getElem?_take, if_pos h, List.getElem?_drop]
/-- A piece of versions in order is in order. -/
theorem ordB_piece {es : List Ent} (ho : ordB es es.length = true) (a m : Nat) : ordB ((es.drop a).take m) ((es.drop a).take m).length = true := by
  refine ordB_all (fun i hi => ?_)
  rw [List.length_take, List.length_drop] at hi
  have h1 := ordB_at ho (show a + i < es.length by omega)
  rw [entAt_piece es a m i (by omega)]
  refine ⟨h1.1, fun h0 => ?_⟩
  rw [entAt_piece es a m (i - 1) (by omega), show a + (i - 1) = a + i - 1 by omega]
  exact h1.2 (by omega)
theorem chunkT_ord {es : List Ent} (ho : ordB es es.length = true) (k : Nat) : ordB (chunkT es k) (chunkT es k).length = true := ordB_piece ho _ _
theorem chunkT_len (es : List Ent) (k : Nat) : (chunkT es k).length = min 8 (es.length - 8 * k) := by unfold chunkT; rw [List.length_take, List.length_drop]
theorem sizeEs_piece (es : List Ent) (a m : Nat) : sizeEs ((es.drop a).take m) ≤ sizeEs es := by
  have h1 := sizeEs_le (es.drop a) m
  have h2 : sizeEs (es.drop a) ≤ sizeEs es := by
    unfold sizeEs
    conv => rhs; rw [← List.take_append_drop a es]
    rw [List.map_append, List.sum_append]
    omega
  omega
theorem chunkT_mem {es : List Ent} {k : Nat} {x : Ent} (h : x ∈ chunkT es k) : x ∈ es := List.mem_of_mem_drop (List.mem_of_mem_take h)
theorem tblkB_size (es : List Ent) (hl : es.length ≤ 150) (hsz : sizeEs es ≤ 20000) (hok : ∀ x ∈ es, x.Ok) : (blkB es).length ≤ 60000 := by
  have h1 := bodyB_len es (by omega) (fun i hi => by
    rw [entAt_get hi]
    obtain ⟨-, h2, h3, h4, h5, -⟩ := hok _ (List.getElem_mem hi)
    omega) es.length (Nat.le_refl _)
  have h2 := sizeEs_le es es.length
  have h3 := tailB_cnt es es.length
  unfold blkB sealF
  simp only [List.length_append, be_length]
  omega
theorem chunkT_size (es : List Ent) (hsz : sizeEs es ≤ 20000) (hok : ∀ x ∈ es, x.Ok) (k : Nat) : (blkB (chunkT es k)).length ≤ 60000 :=
  tblkB_size _ (by rw [chunkT_len]; omega) (Nat.le_trans (sizeEs_piece es _ _) hsz) (fun x hx => hok x (chunkT_mem hx))
theorem blksT_size (es : List Ent) (hsz : sizeEs es ≤ 20000) (hok : ∀ x ∈ es, x.Ok) : ∀ k, (blksT es k).length ≤ 60000 * k
  | 0 => by simp [blksT]
  | k + 1 => by
    have := blksT_size es hsz hok k
    have := chunkT_size es hsz hok k
    show (blksT es k ++ _).length ≤ _
    rw [List.length_append]
    omega
theorem keysT_len (es : List Ent) : ∀ k, (keysT es k).length ≤ k
  | 0 => by simp [keysT]
  | k + 1 => by
    have := keysT_len es k
    show (if k = 0 ∨ keyT es (k - 1) ≠ keyT es k then keysT es k ++ [keyT es k] else keysT es k).length ≤ _
    split
    · rw [List.length_append, List.length_singleton]; omega
    · omega
theorem keysT_mem (es : List Ent) : ∀ k x, x ∈ keysT es k → ∃ i, i < k ∧ x = keyT es i
  | 0, x, h => by simp [keysT] at h
  | k + 1, x, h => by
    have ih := keysT_mem es k
    have h : x ∈ (if k = 0 ∨ keyT es (k - 1) ≠ keyT es k then keysT es k ++ [keyT es k] else keysT es k) := h
    split at h
    · rcases List.mem_append.1 h with h | h
      · obtain ⟨i, hi, e⟩ := ih x h
        exact ⟨i, by omega, e⟩
      · exact ⟨k, by omega, List.mem_singleton.1 h⟩
    · obtain ⟨i, hi, e⟩ := ih x h
      exact ⟨i, by omega, e⟩
theorem textT_len (s : ByteArray) (h : s.size ≤ 300) : (textT s).length ≤ 310 := by
  unfold textT
  have := uv_len s.size (by omega)
  rw [List.length_append, len_data']
  omega
theorem idxT_len (es : List Ent) (hk : ∀ i, i < es.length → (keyT es i).size ≤ 300) (hb : ∀ k, (blksT es k).length < 18446744073709551616) (hc : ∀ k, (blkB (chunkT es k)).length < 18446744073709551616) : ∀ k, k ≤ numT es → (idxT es k).length ≤ 340 * k
  | 0, _ => by simp [idxT]
  | k + 1, h => by
    have ih := idxT_len es hk hb hc k (by omega)
    have h1 := textT_len (keyT es (8 * k)) (hk _ (by unfold numT at h; omega))
    have h2 := vars_length [(blksT es k).length, (blkB (chunkT es k)).length] (fun z hz => by
      have := hb k
      have := hc k
      simp at hz
      omega)
    show (idxT es k ++ (textT _ ++ vars _)).length ≤ _
    rw [List.length_append, List.length_append]
    simp only [List.length_cons, List.length_nil] at h2
    omega
end Go.Proofs.YtmnboiikopkaoaaGreat

namespace Go.Proofs.YtmnboiikopkaoaaGreat
open Go.RowKit

/-- Versions that a table may have. -/
structure FineT (es : List Ent) : Prop where
  some' : es ≠ []
  ord : ordB es es.length = true
  few : es.length ≤ 150
  short : sizeEs es ≤ 20000
  ok : ∀ x ∈ es, x.Ok
/-- What Put tells. -/
def tabV (es : List Ent) : Value := if es ≠ [] ∧ ordB es es.length = true then .tuple #[.string ⟨(tabB es).toArray⟩, .int .i64 0] else .tuple #[.string ⟨#[]⟩, .int .i64 1]
/-- The version of a key at a number. -/
def findT (es : List Ent) (key : ByteArray) (seq : Nat) : Option Ent := es.find? fun x => decide (x.k = key ∧ x.s ≤ (seq : Int))
def foundV : Option Ent → Value
  | some x => .tuple #[ev x.k x.s x.n x.v, .bool true, .int .i64 0]
  | none => .tuple #[ev ⟨#[]⟩ 0 0 ⟨#[]⟩, .bool false, .int .i64 0]
/-- Is a key beyond the ends? -/
def outT (es : List Ent) (key : ByteArray) : Bool := lessB key (keyT es 0) || lessB (keyT es (es.length - 1)) key
/-- How many of the first k blocks may have keys of a range. -/
def mostT (es : List Ent) (lo hi : ByteArray) : Nat → Nat
  | 0 => 0
  | k + 1 => mostT es lo hi k + (if !(lessB (keyT es (min (8 * k + 7) (es.length - 1))) lo) && (hi.toList.isEmpty || lessB (keyT es (8 * k)) hi) then 1 else 0)
theorem mostT_le (es : List Ent) (lo hi : ByteArray) : ∀ k, mostT es lo hi k ≤ k
  | 0 => Nat.le_refl _
  | k + 1 => by
    have ih := mostT_le es lo hi k
    show mostT es lo hi k + (if _ then 1 else 0) ≤ _
    split <;> omega
/-- A list of versions that was answered: of new memory, none of it the reader's. -/
structure NewL (w w' : World) (F' : List Nat) (v : Value) (l : List Ent) : Prop where
  row : Row w' 48 4 v l.length (cellsE l)
  nil : l = [] → v = .slice none 0 0 ∨ ob v ≠ none
  new : ∀ k, ob v = some k → w.heap.size ≤ k ∧ k ∉ F'
/-- What is asked of a table's reader: Tbl w p F es n: at block p, over the blocks F, of the versions es, n blocks were read. -/
structure TabC (Tbl : World → Nat → List Nat → List Ent → Nat → Prop) : Prop where
  lt : ∀ {w : World} {p : Nat} {F : List Nat} {es : List Ent} {n : Nat}, Tbl w p F es n → ∀ k ∈ F, k < w.heap.size
  kept : ∀ {w w' : World} {p : Nat} {F : List Nat} {es : List Ent} {n : Nat}, Tbl w p F es n → (∀ k ∈ F, w'.heap[k]? = w.heap[k]?) → Tbl w' p F es n
  put : ∀ {w : World} (a : Option Addr) (len cap : Nat) (es : List Ent), EntsAt w.heap.size w a len es → len ≤ 150 → len ≤ cap → (∀ x ∈ es, x.Ok) → sizeEs es ≤ 20000 →
    Calls Tryz.prog 17 #[.slice a len cap] w fun e w' => e = .returned (tabV es) ∧ Below w.heap.size w w'
  opens : ∀ (es : List Ent) (Z : ByteArray) (w : World), FineT es → Z.data.toList = tabB es →
    Calls Tryz.prog 19 #[.string Z] w fun e w' => ∃ p F, e = .returned (.tuple #[.pointer (some ⟨p, 0, none⟩), .int .i64 0]) ∧ Tbl w' p F es 0 ∧ (∀ k ∈ F, w.heap.size ≤ k) ∧ Below w.heap.size w w'
  get : ∀ {w : World} {p : Nat} {F : List Nat} {es : List Ent} {n : Nat} (key : ByteArray) (seq : Nat), Tbl w p F es n → n ≤ 1000000 → key.size ≤ 3000 → seq < 18446744073709551616 →
    Calls Tryz.prog 20 #[.pointer (some ⟨p, 0, none⟩), .string key, .int .u64 (seq : Int)] w fun e w' => ∃ F' n', e = .returned (foundV (findT es key seq)) ∧ Tbl w' p F' es n' ∧ n ≤ n' ∧ n' ≤ n + 200 ∧ (outT es key = true → n' = n) ∧ Turn F w w' ∧ (∀ k ∈ F', k ∈ F ∨ w.heap.size ≤ k)
  range : ∀ {w : World} {p : Nat} {F : List Nat} {es : List Ent} {n : Nat} (lo hi : ByteArray), Tbl w p F es n → n ≤ 1000000 → lo.size ≤ 3000 → hi.size ≤ 3000 →
    Calls Tryz.prog 11 #[.pointer (some ⟨p, 0, none⟩), .string lo, .string hi] w fun e w' => ∃ v F' n', e = .returned (.tuple #[v, .int .i64 0]) ∧ NewL w w' F' v (rangeE lo hi es) ∧ Tbl w' p F' es n' ∧ n ≤ n' ∧ n' ≤ n + mostT es lo hi (numT es) + 1 ∧ Turn F w w' ∧ (∀ k ∈ F', k ∈ F ∨ w.heap.size ≤ k)
  len : ∀ {w : World} {p : Nat} {F : List Nat} {es : List Ent} {n : Nat}, Tbl w p F es n → Calls Tryz.prog 23 #[.pointer (some ⟨p, 0, none⟩)] w fun e w' => e = .returned (.int .i64 (es.length : Int)) ∧ w = w'
  blocks : ∀ {w : World} {p : Nat} {F : List Nat} {es : List Ent} {n : Nat}, Tbl w p F es n → Calls Tryz.prog 22 #[.pointer (some ⟨p, 0, none⟩)] w fun e w' => e = .returned (.int .i64 (numT es : Int)) ∧ w = w'
  ends : ∀ {w : World} {p : Nat} {F : List Nat} {es : List Ent} {n : Nat}, Tbl w p F es n → Calls Tryz.prog 14 #[.pointer (some ⟨p, 0, none⟩)] w fun e w' => e = .returned (.tuple #[.string (keyT es 0), .string (keyT es (es.length - 1))]) ∧ Below w.heap.size w w'
  read : ∀ {w : World} {p : Nat} {F : List Nat} {es : List Ent} {n : Nat}, Tbl w p F es n → Calls Tryz.prog 21 #[.pointer (some ⟨p, 0, none⟩)] w fun e w' => e = .returned (.int .i64 (n : Int)) ∧ w = w'
section
variable {Tbl : World → Nat → List Nat → List Ent → Nat → Prop} (T : TabC Tbl)
include T
theorem TabC.below {w w' : World} {p : Nat} {F : List Nat} {es : List Ent} {n : Nat} (h : Tbl w p F es n) (hb : Below w.heap.size w w') : Tbl w' p F es n := T.kept h fun k hk => hb.block k (T.lt h k hk)
end
end Go.Proofs.YtmnboiikopkaoaaGreat

namespace Go.Proofs.YtmnboiikopkaoaaGreat
open Go.RowKit

theorem inRange_end (lo hi : ByteArray) (e : Ent) (h : hi.size ≠ 0) : inRange lo hi e = (!(lessB e.k lo) && lessB e.k hi) := by
  unfold inRange
  have : hi.toList.isEmpty = false := by
    rw [ByteArray.toList_eq]
    cases hd : hi.data.toList with
    | nil => exact absurd (by rw [← len_data', hd]; rfl) h
    | cons => rfl
  rw [this, Bool.false_or]
theorem lessB_of {a b c : ByteArray} (h1 : lessB a b = true) (h2 : lessB c b = false) : lessB a c = true := by
  unfold lessB at *
  rw [decide_eq_true_eq] at *
  rw [decide_eq_false_iff_not] at h2
  rcases cb_vals c.data.toList b.data.toList with h | h | h
  · exact absurd h h2
  · rw [cb_eq _ _ h]; exact h1
  · refine cb_trans _ _ _ h1 ?_
    rw [cb_swap, h]
theorem lessB_no {a b c : ByteArray} (h1 : lessB a b = false) (h2 : lessB b c = false) : lessB a c = false := by
  cases h : lessB a c with
  | false => rfl
  | true =>
    rw [lessB_of h h2] at h1
    cases h1
theorem later_no {es : List Ent} {key : ByteArray} (ho : ordB es es.length = true) {i : Nat} (h0 : lessB (entAt es i).k key = false) : ∀ j, i ≤ j → j < es.length → lessB (entAt es j).k key = false := by
  intro j
  induction j with
  | zero => intro h1 _; rw [show (0 : Nat) = i by omega]; exact h0
  | succ j ih =>
    intro h1 h2
    by_cases e : i = j + 1
    · rw [← e]; exact h0
    · have hj := ih (by omega) (by omega)
      have hc := (ordB_at ho h2).2 (by omega)
      rw [show j + 1 - 1 = j by omega] at hc
      refine lessB_no ?_ hj
      unfold cmpN cmpE at hc
      unfold lessB
      rw [decide_eq_false_iff_not]
      intro hl
      rw [cb_swap, hl] at hc
      simp at hc
/-- Where the keys that are not below one begin. -/
theorem split_at {es : List Ent} (key : ByteArray) (ho : ordB es es.length = true) : ∃ d, d ≤ es.length ∧ (∀ x ∈ es.take d, lessB x.k key = true) ∧ (∀ x ∈ es.drop d, lessB x.k key = false) := by
  have hmin : ∀ n, n ≤ es.length → (∃ i, i < n ∧ lessB (entAt es i).k key = false ∧ ∀ j, j < i → lessB (entAt es j).k key = true) ∨ ∀ j, j < n → lessB (entAt es j).k key = true := by
    intro n
    induction n with
    | zero => intro _; exact .inr (fun j hj => by omega)
    | succ n ih =>
      intro hn
      rcases ih (by omega) with ⟨i, hi, h1, h2⟩ | h
      · exact .inl ⟨i, by omega, h1, h2⟩
      · cases hq : lessB (entAt es n).k key with
        | false => exact .inl ⟨n, by omega, hq, h⟩
        | true =>
          refine .inr (fun j hj => ?_)
          by_cases e : j = n
          · rw [e]; exact hq
          · exact h j (by omega)
  rcases hmin es.length (Nat.le_refl _) with ⟨d, hd, h1, h2⟩ | h
  · refine ⟨d, by omega, fun x hx => ?_, fun x hx => ?_⟩
    · obtain ⟨k, hk, rfl⟩ := List.getElem_of_mem hx
      rw [List.length_take] at hk
      have := h2 k (by omega)
      rw [entAt_get (show k < es.length by omega)] at this
      rw [List.getElem_take]
      exact this
    · obtain ⟨k, hk, rfl⟩ := List.getElem_of_mem hx
      rw [List.length_drop] at hk
      have := later_no ho h1 (d + k) (by omega) (by omega)
      rw [entAt_get (show d + k < es.length by omega)] at this
      rw [List.getElem_drop]
      exact this
  · refine ⟨es.length, Nat.le_refl _, fun x hx => ?_, fun x hx => by rw [List.drop_length] at hx; cases hx⟩
    rw [List.take_length] at hx
    obtain ⟨k, hk, rfl⟩ := List.getElem_of_mem hx
    have := h k hk
    rw [entAt_get hk] at this
    exact this
theorem range_two {es : List Ent} {lo mid hi : ByteArray} (ho : ordB es es.length = true) (h1 : lessB mid lo = false) (h2 : lessB hi mid = false) (hm : mid.size ≠ 0) (hh : hi.size ≠ 0) : rangeE lo mid es ++ rangeE mid hi es = rangeE lo hi es := by
  obtain ⟨d, hd, ha, hb⟩ := split_at mid ho
  have e : es = es.take d ++ es.drop d := (List.take_append_drop d es).symm
  have p1 : rangeE lo mid es = rangeE lo hi (es.take d) := by
    conv => lhs; rw [e]
    unfold rangeE
    rw [List.filter_append, List.filter_eq_nil_iff.2 (show ∀ x ∈ es.drop d, ¬ inRange lo mid x = true from fun x hx => by rw [inRange_end _ _ _ hm, hb x hx]; simp), List.append_nil]
    refine List.filter_congr (fun x hx => ?_)
    rw [inRange_end _ _ _ hm, inRange_end _ _ _ hh, ha x hx, lessB_of (ha x hx) h2]
  have p2 : rangeE mid hi es = rangeE lo hi (es.drop d) := by
    conv => lhs; rw [e]
    unfold rangeE
    rw [List.filter_append, List.filter_eq_nil_iff.2 (show ∀ x ∈ es.take d, ¬ inRange mid hi x = true from fun x hx => by rw [inRange_end _ _ _ hh, ha x hx]; simp), List.nil_append]
    refine List.filter_congr (fun x hx => ?_)
    rw [inRange_end _ _ _ hh, inRange_end _ _ _ hh, hb x hx, lessB_no (hb x hx) h1]
  rw [p1, p2]
  conv => rhs; rw [e]
  unfold rangeE
  rw [List.filter_append]
/-- What is found, if none of the first ones is it. -/
theorem findT_at {es : List Ent} {key : ByteArray} {seq : Nat} {k : Nat} (hk : k < es.length) (hno : ∀ i, i < k → ¬ ((entAt es i).k = key ∧ (entAt es i).s ≤ (seq : Int))) (h : (entAt es k).k = key ∧ (entAt es k).s ≤ (seq : Int)) : findT es key seq = some (entAt es k) := by
  unfold findT
  rw [List.find?_eq_some_iff_getElem]
  refine ⟨decide_eq_true h, k, hk, (entAt_get hk).symm, fun j hj => ?_⟩
  have := hno j hj
  rw [entAt_get (show j < es.length by omega)] at this
  rw [decide_eq_false this]
  rfl
theorem findT_no {es : List Ent} {key : ByteArray} {seq : Nat} (hno : ∀ i, i < es.length → ¬ ((entAt es i).k = key ∧ (entAt es i).s ≤ (seq : Int))) : findT es key seq = none := by
  unfold findT
  rw [List.find?_eq_none]
  intro x hx
  obtain ⟨i, hi, rfl⟩ := List.getElem_of_mem hx
  have := hno i hi
  rw [entAt_get hi] at this
  rw [decide_eq_false this]
  simp
end Go.Proofs.YtmnboiikopkaoaaGreat

namespace Go.Proofs.YtmnboiikopkaoaaGreat
open Go.RowKit

theorem piece_mid (a m b : List UInt8) : ((a ++ m ++ b).drop a.length).take m.length = m := by
  rw [List.append_assoc, List.drop_left, List.take_left]
theorem blksT_pre (es : List Ent) (k : Nat) : ∀ n, k ≤ n → ∃ r, blksT es n = blksT es k ++ r := by
  intro n
  induction n with
  | zero => intro h; obtain rfl : k = 0 := by omega
            exact ⟨[], (List.append_nil _).symm⟩
  | succ n ih =>
    intro h
    by_cases e : k = n + 1
    · rw [e]; exact ⟨[], (List.append_nil _).symm⟩
    · obtain ⟨r, hr⟩ := ih (by omega)
      exact ⟨r ++ blkB (chunkT es n), by show blksT es n ++ _ = _; rw [hr, List.append_assoc]⟩
theorem blksT_mono (es : List Ent) {k n : Nat} (h : k ≤ n) : (blksT es k).length ≤ (blksT es n).length := by
  obtain ⟨r, hr⟩ := blksT_pre es k n h
  rw [hr, List.length_append]
  omega
theorem blksT_len_succ (es : List Ent) (k : Nat) : (blksT es (k + 1)).length = (blksT es k).length + (blkB (chunkT es k)).length := by
  show (blksT es k ++ _).length = _
  rw [List.length_append]
theorem tabB_len (es : List Ent) : (tabB es).length = (blksT es (numT es)).length + (filT es).length + (indT es).length + 28 := by
  unfold tabB sealF footT
  simp only [List.length_append, be_length]
/-- A block's bytes, where the index says. -/
theorem tabB_blk (es : List Ent) {k : Nat} (h : k < numT es) : ((tabB es).drop (blksT es k).length).take (blkB (chunkT es k)).length = blkB (chunkT es k) := by
  obtain ⟨r, hr⟩ := blksT_pre es (k + 1) (numT es) (by omega)
  have e : tabB es = blksT es k ++ blkB (chunkT es k) ++ (r ++ (filT es ++ (indT es ++ sealF (footT es)))) := by
    unfold tabB
    rw [hr]
    show ((((blksT es k ++ blkB (chunkT es k)) ++ r) ++ _) ++ _) ++ _ = _
    simp only [List.append_assoc]
  rw [e]
  exact piece_mid _ _ _
theorem tabB_fil (es : List Ent) : ((tabB es).drop (blksT es (numT es)).length).take (filT es).length = filT es := by
  have e : tabB es = blksT es (numT es) ++ filT es ++ (indT es ++ sealF (footT es)) := by unfold tabB; simp only [List.append_assoc]
  rw [e]
  exact piece_mid _ _ _
theorem tabB_ind (es : List Ent) : ((tabB es).drop ((blksT es (numT es)).length + (filT es).length)).take (indT es).length = indT es := by
  have e : tabB es = (blksT es (numT es) ++ filT es) ++ indT es ++ sealF (footT es) := by unfold tabB; simp only [List.append_assoc]
  rw [e, ← List.length_append]
  exact piece_mid _ _ _
theorem tabB_foot (es : List Ent) : (tabB es).drop ((tabB es).length - 28) = sealF (footT es) := by
  have hl := tabB_len es
  have e : tabB es = (blksT es (numT es) ++ filT es ++ indT es) ++ sealF (footT es) := rfl
  have : (tabB es).length - 28 = (blksT es (numT es) ++ filT es ++ indT es).length := by
    rw [hl]
    simp only [List.length_append]
    omega
  rw [this]
  conv => lhs; rw [e]
  exact List.drop_left
/-- The four numbers of a footer. -/
theorem footT_parts (es : List Ent) : (footT es).length = 24 ∧ (footT es).take 6 = be (blksT es (numT es)).length 6 ∧ ((footT es).drop 6).take 6 = be (filT es).length 6 ∧ ((footT es).drop 12).take 6 = be ((blksT es (numT es)).length + (filT es).length) 6 ∧ ((footT es).drop 18).take 6 = be (indT es).length 6 := by
  unfold footT
  generalize (blksT es (numT es)).length = p
  generalize (filT es).length = q
  generalize (indT es).length = r
  have h1 : (be p 6).length = 6 := be_length _ _
  have h2 : (be q 6).length = 6 := be_length _ _
  have h3 : (be (p + q) 6).length = 6 := be_length _ _
  have h4 : (be r 6).length = 6 := be_length _ _
  generalize be p 6 = A at *
  generalize be q 6 = B at *
  generalize be (p + q) 6 = C at *
  generalize be r 6 = D at *
  refine ⟨by simp only [List.length_append]; omega, ?_, ?_, ?_, ?_⟩
  · rw [List.append_assoc, List.append_assoc, ← h1]; exact List.take_left
  · have := piece_mid A B (C ++ D)
    rw [h1, h2] at this
    rw [List.append_assoc]; exact this
  · have := piece_mid (A ++ B) C D
    rw [List.length_append, h1, h2, h3] at this
    exact this
  · have := piece_mid (A ++ B ++ C) D []
    rw [List.append_nil, List.length_append, List.length_append, h1, h2, h3, h4] at this
    exact this
/-- A piece of what was changed at one place. -/
theorem piece_set (s : List UInt8) (j : Nat) (c : UInt8) (a l : Nat) : ((s.set j c).drop a).take l = if a ≤ j then ((s.drop a).take l).set (j - a) c else (s.drop a).take l := by
  by_cases h : a ≤ j
  · rw [if_pos h, List.drop_set, if_neg (by omega), List.take_set]
  · rw [if_neg h, List.drop_set, if_pos (by omega)]
theorem piece_far (s : List UInt8) (j : Nat) (c : UInt8) (a l : Nat) (h : j < a ∨ a + l ≤ j) : ((s.set j c).drop a).take l = (s.drop a).take l := by
  rw [piece_set]
  split
  · rw [List.set_eq_of_length_le]
    rw [List.length_take]
    omega
  · rfl
/-- Where a place of the blocks lies. -/
theorem blksT_where (es : List Ent) (j : Nat) : ∀ n, j < (blksT es n).length → ∃ k, k < n ∧ (blksT es k).length ≤ j ∧ j < (blksT es k).length + (blkB (chunkT es k)).length
  | 0, h => by simp [blksT] at h
  | n + 1, h => by
    by_cases h1 : j < (blksT es n).length
    · obtain ⟨k, hk, h2⟩ := blksT_where es j n h1
      exact ⟨k, by omega, h2⟩
    · refine ⟨n, by omega, by omega, ?_⟩
      rw [blksT_len_succ] at h
      exact h
theorem tabB_where (es : List Ent) (j : Nat) (h : j < (tabB es).length) : (∃ k, k < numT es ∧ (blksT es k).length ≤ j ∧ j < (blksT es k).length + (blkB (chunkT es k)).length) ∨ ((blksT es (numT es)).length ≤ j ∧ j < (blksT es (numT es)).length + (filT es).length) ∨ ((blksT es (numT es)).length + (filT es).length ≤ j ∧ j < (blksT es (numT es)).length + (filT es).length + (indT es).length) ∨ ((tabB es).length - 28 ≤ j) := by
  have hl := tabB_len es
  by_cases h1 : j < (blksT es (numT es)).length
  · exact .inl (blksT_where es j _ h1)
  · by_cases h2 : j < (blksT es (numT es)).length + (filT es).length
    · exact .inr (.inl ⟨by omega, h2⟩)
    · by_cases h3 : j < (blksT es (numT es)).length + (filT es).length + (indT es).length
      · exact .inr (.inr (.inl ⟨by omega, h3⟩))
      · exact .inr (.inr (.inr (by omega)))
/-- Another block than the one that was changed. -/
theorem tabB_other (es : List Ent) {j k m : Nat} (c : UInt8) (hm : m < numT es) (h1 : (blksT es k).length ≤ j) (h2 : j < (blksT es k).length + (blkB (chunkT es k)).length) (hne : m ≠ k) : (((tabB es).set j c).drop (blksT es m).length).take (blkB (chunkT es m)).length = blkB (chunkT es m) := by
  rw [piece_far, tabB_blk es hm]
  by_cases h : m < k
  · have := blksT_mono es (show m + 1 ≤ k by omega)
    rw [blksT_len_succ] at this
    exact .inr (by omega)
  · have := blksT_mono es (show k + 1 ≤ m by omega)
    rw [blksT_len_succ] at this
    exact .inl (by omega)
/-- The block that was changed. -/
theorem tabB_this (es : List Ent) {j k : Nat} (c : UInt8) (hk : k < numT es) (h1 : (blksT es k).length ≤ j) : (((tabB es).set j c).drop (blksT es k).length).take (blkB (chunkT es k)).length = (blkB (chunkT es k)).set (j - (blksT es k).length) c := by
  rw [piece_set, if_pos h1, tabB_blk es hk]
theorem piece_at (s p : List UInt8) (a l j : Nat) (hp : (s.drop a).take l = p) (h1 : a ≤ j) (h2 : j < s.length) (h3 : j - a < p.length) : s[j] = p[j - a] := by
  subst hp
  rw [List.getElem_take, List.getElem_drop]
  congr 1
  omega
end Go.Proofs.YtmnboiikopkaoaaGreat

namespace Go.Proofs.YtmnboiikopkaoaaGreat
open Go.RowKit

/-- What is behind the rows of an index. -/
def tailT (es : List Ent) : List UInt8 := Lib.uvarint es.length ++ textT (keyT es (es.length - 1))
/-- What is left of an index behind k rows. -/
def restT (es : List Ent) (k : Nat) : List UInt8 := (idxT es (numT es)).drop (idxT es k).length ++ tailT es
theorem idxT_pre (es : List Ent) (k : Nat) : ∀ n, k ≤ n → ∃ r, idxT es n = idxT es k ++ r := by
  intro n
  induction n with
  | zero => intro h; obtain rfl : k = 0 := by omega
            exact ⟨[], (List.append_nil _).symm⟩
  | succ n ih =>
    intro h
    by_cases e : k = n + 1
    · rw [e]; exact ⟨[], (List.append_nil _).symm⟩
    · obtain ⟨r, hr⟩ := ih (by omega)
      exact ⟨r ++ (textT (keyT es (8 * n)) ++ vars [(blksT es n).length, (blkB (chunkT es n)).length]), by show idxT es n ++ _ = _; rw [hr, List.append_assoc]⟩
theorem indT_eq (es : List Ent) : indT es = sealF (Lib.uvarint (numT es) ++ restT es 0) := by
  unfold indT restT tailT
  rw [show idxT es 0 = [] from rfl, List.length_nil, List.drop_zero]
  simp only [List.append_assoc]
theorem restT_end (es : List Ent) : restT es (numT es) = tailT es := by
  unfold restT
  rw [List.drop_length, List.nil_append]
theorem restT_step (es : List Ent) {k : Nat} (h : k < numT es) : restT es k = textT (keyT es (8 * k)) ++ (Lib.uvarint (blksT es k).length ++ (Lib.uvarint (blkB (chunkT es k)).length ++ restT es (k + 1))) := by
  obtain ⟨r, hr⟩ := idxT_pre es (k + 1) (numT es) (by omega)
  unfold restT
  rw [hr, List.drop_left]
  rw [show idxT es (k + 1) = idxT es k ++ (textT (keyT es (8 * k)) ++ vars [(blksT es k).length, (blkB (chunkT es k)).length]) from rfl, List.append_assoc, List.drop_left]
  rw [show vars [(blksT es k).length, (blkB (chunkT es k)).length] = Lib.uvarint (blksT es k).length ++ (Lib.uvarint (blkB (chunkT es k)).length ++ []) from rfl, List.append_nil]
  simp only [List.append_assoc]
theorem rdT_laid (most : Int) (s : ByteArray) (r : List UInt8) (h : (s.size : Int) ≤ most) (hs : s.size < 18446744073709551616) : rdT most (textT s ++ r) 0 = (s.data.toList, r, 0) := by
  have := decT_laid most s.data.toList r (by rw [len_data']; exact hs) (by rw [len_data']; exact h)
  rw [len_data'] at this
  unfold rdT textT
  rw [List.append_assoc, this]
  rfl
theorem rdV_laid (v : Nat) (r : List UInt8) (h : v < 18446744073709551616) : rdV (Lib.uvarint v ++ r) 0 = (v, r, 0) := rdV_ok (decV_laid v r h)
theorem rdC_laid (most : Int) (v : Nat) (r : List UInt8) (hm : (v : Int) ≤ most) (h : v < 18446744073709551616) : rdC most (Lib.uvarint v ++ r) 0 = (v, r, 0) := rdC_ok (decC_laid most v r h hm)
/-- Keys of a table's versions do not fall. -/
theorem keyT_up {es : List Ent} (ho : ordB es es.length = true) {i j : Nat} (hij : i ≤ j) (hj : j < es.length) : lessB (keyT es j) (keyT es i) = false := by
  refine later_no ho ?_ j hij hj
  unfold lessB keyT
  rw [decide_eq_false_iff_not, cb_refl]
  omega
end Go.Proofs.YtmnboiikopkaoaaGreat

namespace Go.Proofs.YtmnboiikopkaoaaGreat
open Go.RowKit

theorem takeT_step (es : List Ent) (k : Nat) : es.take (8 * (k + 1)) = es.take (8 * k) ++ chunkT es k := by
  unfold chunkT
  rw [show 8 * (k + 1) = 8 * k + 8 by omega, List.take_add]
theorem takeT_all (es : List Ent) : es.take (8 * numT es) = es := List.take_of_length_le (by unfold numT; omega)
theorem rangeT_step (lo hi : ByteArray) (es : List Ent) (k : Nat) : rangeE lo hi (es.take (8 * (k + 1))) = rangeE lo hi (es.take (8 * k)) ++ rangeE lo hi (chunkT es k) := by
  unfold rangeE
  rw [takeT_step, List.filter_append]
theorem rangeT_all (lo hi : ByteArray) (es : List Ent) : rangeE lo hi (es.take (8 * numT es)) = rangeE lo hi es := by rw [takeT_all]
theorem findT_step (key : ByteArray) (seq : Nat) (es : List Ent) (k : Nat) : findT (es.take (8 * (k + 1))) key seq = (findT (es.take (8 * k)) key seq).or (findT (chunkT es k) key seq) := by
  unfold findT
  rw [takeT_step, List.find?_append]
theorem findT_all (key : ByteArray) (seq : Nat) (es : List Ent) : findT (es.take (8 * numT es)) key seq = findT es key seq := by rw [takeT_all]
theorem chunkT_at {es : List Ent} {k : Nat} {x : Ent} (h : x ∈ chunkT es k) : ∃ i, 8 * k ≤ i ∧ i ≤ min (8 * k + 7) (es.length - 1) ∧ i < es.length ∧ x.k = keyT es i := by
  unfold chunkT at h
  obtain ⟨i, hi, rfl⟩ := List.getElem_of_mem h
  have hl := hi
  rw [List.length_take, List.length_drop] at hl
  refine ⟨8 * k + i, by omega, by omega, by omega, ?_⟩
  unfold keyT
  rw [entAt_get (show 8 * k + i < es.length by omega), List.getElem_take, List.getElem_drop]
theorem lessB_back {a b c : ByteArray} (h1 : lessB b a = false) (h2 : lessB b c = true) : lessB a c = true := by
  cases h : lessB a c with
  | true => rfl
  | false =>
    rw [lessB_no h1 h] at h2
    cases h2
/-- All keys of a block lie below what lies above its last one. -/
theorem chunkT_low {es : List Ent} (ho : ordB es es.length = true) {k i : Nat} {key : ByteArray} (hi : min (8 * k + 7) (es.length - 1) ≤ i) (hl : i < es.length) (h : lessB (keyT es i) key = true) : ∀ x ∈ chunkT es k, lessB x.k key = true := by
  intro x hx
  obtain ⟨j, h1, h2, h3, e⟩ := chunkT_at hx
  rw [e]
  exact lessB_back (keyT_up ho (show j ≤ i by omega) hl) h
/-- No key of a block lies below what its first one does not lie below. -/
theorem chunkT_high {es : List Ent} (ho : ordB es es.length = true) {k i : Nat} {key : ByteArray} (hi : i ≤ 8 * k) (h : lessB (keyT es i) key = false) : ∀ x ∈ chunkT es k, lessB x.k key = false := by
  intro x hx
  obtain ⟨j, h1, h2, h3, e⟩ := chunkT_at hx
  rw [e]
  exact lessB_no (keyT_up ho (show i ≤ j by omega) h3) h
theorem rangeT_low {es : List Ent} (ho : ordB es es.length = true) {k i : Nat} {lo : ByteArray} (hi : ByteArray) (hk : min (8 * k + 7) (es.length - 1) ≤ i) (hl : i < es.length) (h : lessB (keyT es i) lo = true) : rangeE lo hi (chunkT es k) = [] := by
  unfold rangeE
  rw [List.filter_eq_nil_iff]
  intro x hx
  unfold inRange
  rw [chunkT_low ho hk hl h x hx]
  simp
theorem rangeT_high {es : List Ent} (ho : ordB es es.length = true) {k i : Nat} (lo : ByteArray) {hi : ByteArray} (hn : hi.size ≠ 0) (hk : i ≤ 8 * k) (h : lessB (keyT es i) hi = false) : rangeE lo hi (chunkT es k) = [] := by
  unfold rangeE
  rw [List.filter_eq_nil_iff]
  intro x hx
  rw [inRange_end _ _ _ hn, chunkT_high ho hk h x hx]
  simp
theorem lessB_self (a : ByteArray) : lessB a a = false := by
  unfold lessB
  rw [decide_eq_false_iff_not, cb_refl]
  omega
theorem findT_low {es : List Ent} (ho : ordB es es.length = true) {k i : Nat} {key : ByteArray} (seq : Nat) (hk : min (8 * k + 7) (es.length - 1) ≤ i) (hl : i < es.length) (h : lessB (keyT es i) key = true) : findT (chunkT es k) key seq = none := by
  unfold findT
  rw [List.find?_eq_none]
  intro x hx
  have := chunkT_low ho hk hl h x hx
  simp only [decide_eq_true_eq, not_and]
  intro e
  rw [e, lessB_self] at this
  cases this
theorem findT_high {es : List Ent} (ho : ordB es es.length = true) {k i : Nat} {key : ByteArray} (seq : Nat) (hk : i ≤ 8 * k) (h : lessB key (keyT es i) = true) : findT (chunkT es k) key seq = none := by
  unfold findT
  rw [List.find?_eq_none]
  intro x hx
  obtain ⟨j, h1, h2, h3, e⟩ := chunkT_at hx
  simp only [decide_eq_true_eq, not_and]
  intro e2
  have := keyT_up ho (show i ≤ j by omega) h3
  rw [← e, e2, h] at this
  cases this
/-- Once a block has one that is found, no later one is asked. -/
theorem findT_first {es : List Ent} {key : ByteArray} {seq k : Nat} {x : Ent} (h0 : findT (es.take (8 * k)) key seq = none) (h : findT (chunkT es k) key seq = some x) : findT es key seq = some x := by
  have h1 : findT (es.take (8 * (k + 1))) key seq = some x := by rw [findT_step, h0, h]; rfl
  unfold findT at *
  conv => lhs; rw [← List.take_append_drop (8 * (k + 1)) es]
  rw [List.find?_append, h1]
  rfl
/-- Nothing found in the first blocks, and the others lie above. -/
theorem findT_none {es : List Ent} (ho : ordB es es.length = true) {key : ByteArray} {seq k : Nat} (h0 : findT (es.take (8 * k)) key seq = none) (h : 8 * k < es.length → lessB key (keyT es (8 * k)) = true) : findT es key seq = none := by
  unfold findT at *
  rw [List.find?_eq_none] at *
  intro x hx
  rw [← List.take_append_drop (8 * k) es] at hx
  rcases List.mem_append.1 hx with hx | hx
  · exact h0 x hx
  · obtain ⟨i, hi, rfl⟩ := List.getElem_of_mem hx
    rw [List.length_drop] at hi
    have := keyT_up ho (show 8 * k ≤ 8 * k + i by omega) (show 8 * k + i < es.length by omega)
    simp only [decide_eq_true_eq, not_and]
    intro e
    rw [List.getElem_drop] at e
    unfold keyT at this h
    rw [entAt_get (show 8 * k + i < es.length by omega), e, h (by omega)] at this
    cases this
/-- Each key is among those that the filter was made of. -/
theorem keysT_has (es : List Ent) : ∀ k i, i < k → keyT es i ∈ keysT es k
  | 0, i, h => by omega
  | k + 1, i, h => by
    have ih := keysT_has es k
    show keyT es i ∈ (if k = 0 ∨ keyT es (k - 1) ≠ keyT es k then keysT es k ++ [keyT es k] else keysT es k)
    by_cases e : i = k
    · subst e
      by_cases c : i = 0 ∨ keyT es (i - 1) ≠ keyT es i
      · rw [if_pos c]; exact List.mem_append_right _ (List.mem_singleton.2 rfl)
      · rw [if_neg c]
        have hc : i ≠ 0 ∧ keyT es (i - 1) = keyT es i := ⟨fun h0 => c (.inl h0), Classical.not_not.1 fun h1 => c (.inr h1)⟩
        rw [← hc.2]
        exact ih (i - 1) (by omega)
    · have := ih i (by omega)
      split
      · exact List.mem_append_left _ this
      · exact this
theorem findT_key {es : List Ent} {key : ByteArray} {seq : Nat} (h : key ∉ keysT es es.length) : findT es key seq = none := by
  refine findT_no (fun i hi hq => h ?_)
  rw [← hq.1]
  exact keysT_has es es.length i hi
/-- A key beyond the ends is not found. -/
theorem findT_out {es : List Ent} (ho : ordB es es.length = true) {key : ByteArray} {seq : Nat} (h : outT es key = true) : findT es key seq = none := by
  refine findT_no (fun i hi hq => ?_)
  unfold outT at h
  rw [Bool.or_eq_true] at h
  have e : keyT es i = key := hq.1
  rcases h with h | h
  · have := keyT_up ho (Nat.zero_le i) hi
    rw [e, h] at this
    cases this
  · have := keyT_up ho (show i ≤ es.length - 1 by omega) (show es.length - 1 < es.length by omega)
    rw [e, h] at this
    cases this
end Go.Proofs.YtmnboiikopkaoaaGreat
