/- Joined: DF2 DF3. -/
import Derived.Test.YtfndlfnlepndmaaGreatF4
import Derived.Laws.IdiomStrings
import Derived.Deep.AppendSrc
namespace Go.Proofs.YtfndlfnlepndmaaGreat
open Go.RowKit

/-- A row of a call's own; nil, if it has nothing. -/
def RowZ (w : World) (e : TypeId) (size : Nat) (v : Value) (n : Nat) (xs : List Value) : Prop := Row w e size v n xs ∧ (n = 0 → v = .slice none 0 0)
section
variable {w w' : World} {e : TypeId} {size n : Nat} {v : Value} {xs : List Value}
theorem rowZ_nil (w : World) (e : TypeId) (size : Nat) : RowZ w e size (.slice none 0 0) 0 [] := ⟨row_nil w e size, fun _ => rfl⟩
theorem RowZ.kept (h : RowZ w e size v n xs) (hk : ∀ k, ob v = some k → w'.heap[k]? = w.heap[k]?) : RowZ w' e size v n xs := ⟨h.1.kept hk, h.2⟩
theorem RowZ.below (h : RowZ w e size v n xs) (hb : Below w.heap.size w w') : RowZ w' e size v n xs := h.kept fun k hk => hb.block k (h.1.lt k hk)
theorem RowZ.cases (h : RowZ w e size v n xs) : (n = 0 ∧ v = .slice none 0 0 ∧ xs = []) ∨ ∃ g cap, v = .slice (some ⟨g, 0, none⟩) n cap ∧ ob v = some g ∧ 0 < n ∧ n ≤ cap ∧ cap ≤ maxLen ∧ g < w.heap.size ∧ ∀ j u, xs[j]? = some u → w.cell? ⟨g, j, none⟩ = some u := by
  obtain ⟨h, h0⟩ := h
  rcases Nat.eq_zero_or_pos n with hn | hn
  · refine .inl ⟨hn, h0 hn, List.eq_nil_of_length_eq_zero ?_⟩
    rw [h.1, hn, Nat.zero_mul]
  · right
    have hc := h.cell
    rcases h.2 with ⟨h1, -⟩ | ⟨g, cap, cur, rfl, hg, h1, h2, -⟩
    · omega
    · exact ⟨g, cap + 1, rfl, rfl, hn, h1, h2, (Array.getElem?_eq_some_iff.1 hg).1, fun j u hu => by have := hc g 0 _ rfl j u hu; rwa [Nat.zero_add] at this⟩
theorem RowZ.cells' (h : RowZ w e size v n xs) {g cap : Nat} (hv : v = .slice (some ⟨g, 0, none⟩) n cap) : ∀ j u, xs[j]? = some u → w.cell? ⟨g, j, none⟩ = some u := fun j u hu => by
  have := h.1.cell g 0 _ hv j u hu
  rwa [Nat.zero_add] at this
theorem RowZ.len (h : RowZ w e size v n xs) : xs.length = n * size := h.1.1
theorem RowZ.le (h : RowZ w e size v n xs) : ∃ a cap, v = .slice a n cap ∧ n ≤ cap ∧ cap ≤ maxLen := h.1.le
theorem addr0 (g j : Nat) : (⟨g, 0, none⟩ : Addr).add j = ⟨g, j, none⟩ := by unfold Addr.add; split <;> simp_all
theorem addrO (g o j : Nat) : (⟨g, o, none⟩ : Addr).add j = ⟨g, o + j, none⟩ := by unfold Addr.add; split <;> simp_all
/-- The whole row as what is appended. -/
theorem RowZ.src {P : Program} {tx e' : TypeId} (hk : P.underlying tx = some (.slice e')) (h : RowZ w e size v n xs) (h1 : ∀ u ∈ xs, u.oneCell' = true) : Src P size tx v n xs w := by
  rcases h.cases with ⟨rfl, rfl, rfl⟩ | ⟨g, cap, rfl, -, -, -, -, -, hc⟩
  · exact Src.ofNil _ hk 0
  · exact Src.ofSlice _ hk ⟨g, 0, none⟩ n cap xs h.len (fun j u hu => by rw [addr0]; exact hc j u hu) h1
theorem _root_.Go.Proofs.YtfndlfnlepndmaaGreat.Row.srcZ {P : Program} {tx e' : TypeId} (hk : P.underlying tx = some (.slice e')) (h : Row w e size v n xs) (h1 : ∀ u ∈ xs, u.oneCell' = true) : Src P size tx v n xs w := by
  rcases h.2 with ⟨rfl, rfl | ⟨b, o, rfl⟩⟩ | ⟨g, cap, cur, rfl, -⟩
  · have : xs = [] := List.eq_nil_of_length_eq_zero (by rw [h.1, Nat.zero_mul])
    subst this
    exact Src.ofNil _ hk 0
  · have : xs = [] := List.eq_nil_of_length_eq_zero (by rw [h.1, Nat.zero_mul])
    subst this
    exact Src.ofSlice _ hk ⟨b, o, none⟩ 0 0 [] (by simp) (fun j u hu => by cases hu) (by simp)
  · refine Src.ofSlice _ hk ⟨g, 0, none⟩ n (cap + 1) xs h.1 (fun j u hu => ?_) h1
    have := h.cell g 0 _ rfl j u hu
    rw [Nat.zero_add] at this
    unfold Addr.add
    split <;> simp_all
/-- Its first m elements. -/
theorem RowZ.srcTake {P : Program} {tx e' : TypeId} (hk : P.underlying tx = some (.slice e')) (h : RowZ w e size v n xs) (h1 : ∀ u ∈ xs, u.oneCell' = true) {a : Option Addr} {c : Nat} (hv : v = .slice a n c) (m : Nat) (hm : m ≤ n) : Src P size tx (.slice a m c) m (xs.take (m * size)) w := by
  have hms : m * size ≤ n * size := Nat.mul_le_mul_right _ hm
  rcases h.cases with ⟨rfl, rfl, rfl⟩ | ⟨g, cap, rfl, -, -, -, -, -, hc⟩
  · cases hv
    obtain rfl : m = 0 := by omega
    rw [List.take_nil]
    exact Src.ofNil _ hk 0
  · cases hv
    refine Src.ofSlice _ hk ⟨g, 0, none⟩ m c _ (by rw [List.length_take, h.len]; omega) (fun j u hu => ?_) (fun u hu => h1 u (List.mem_of_mem_take hu))
    rw [addr0]
    refine hc j u ?_
    rw [List.getElem?_take] at hu
    split at hu
    · exact hu
    · cases hu
end
theorem drewNZ {B : Nat} {a b : World} (h : Below B a b) (n : Nat) : Below B a (b.drewN n) := ⟨h.os, h.tape, h.output, h.size, h.block⟩
theorem below_row2 {B : Nat} {a b c : World} {row : Option Nat} (h : Below B a b) (hB : B ≤ a.heap.size) (hg : b.grownBy c row) (hr : ∀ k, row = some k → B ≤ k) : Below B a c := h.grown hg (Nat.le_trans hB h.size) hr
theorem ob_new2 {w w' : World} {v v' : Value} {B : Nat} (h : ob v' = ob v ∨ (ob v' = some w.heap.size ∧ w.grownBy w' none)) (hB : B ≤ w.heap.size) (hv : ∀ b, ob v = some b → B ≤ b) : ∀ b, ob v' = some b → B ≤ b := by
  intro b hb
  rcases h with e | ⟨e, -⟩
  · exact hv b (by rw [← e]; exact hb)
  · rw [e] at hb
    cases hb
    exact hB

theorem bb_drop (a b : ByteArray) (i : Nat) (ha : i < a.size) (hb : i < b.size) : bytesBefore (a.data.toList.drop i) (b.data.toList.drop i) = (decide (a[i] < b[i]) || (a[i] == b[i] && bytesBefore (a.data.toList.drop (i + 1)) (b.data.toList.drop (i + 1)))) := by
  have h1 : a.data.toList.drop i = a[i] :: a.data.toList.drop (i + 1) := List.drop_eq_getElem_cons (by rw [Array.length_toList]; exact ha)
  have h2 : b.data.toList.drop i = b[i] :: b.data.toList.drop (i + 1) := List.drop_eq_getElem_cons (by rw [Array.length_toList]; exact hb)
  rw [h1, h2]
  rfl
theorem bb_end (x y : List UInt8) (h : x = [] ∨ y = []) : bytesBefore x y = decide (x.length < y.length) := by
  rcases h with rfl | rfl
  · cases y <;> rfl
  · cases x <;> rfl
set_option maxHeartbeats 2000000 in
set_option maxRecDepth 100000 in
theorem dless_any (a b : ByteArray) (w : World) (ha : a.size ≤ 9223372036854775807) (_hb : b.size ≤ 9223372036854775807) :
    Calls Tryz.prog 170 #[.string a, .string b] w fun e w' => e = .returned (.bool (bytesBefore a.data.toList b.data.toList)) ∧ Below w.heap.size w w' := by
  go_enter Tryz.func170, Tryz.ntmps170
  go_wp2
  go_loopw [5] (fun iv wr => ∃ i : Nat, iv = .int .i64 (i : Int) ∧ i ≤ a.size ∧ i ≤ b.size ∧ bytesBefore (a.data.toList.drop i) (b.data.toList.drop i) = bytesBefore a.data.toList b.data.toList ∧ Below w.heap.size w wr) (fun iv _ => a.size - (intOf iv).toNat)
  case atStart => exact ⟨0, rfl, Nat.zero_le _, Nat.zero_le _, rfl, Below.refl _ _⟩
  case round =>
    obtain ⟨i, rfl, hia, hib, he, hbl⟩ := hrel
    have HE := Lib.hid he
    have HBL := Lib.hid hbl
    clear he hbl
    by_cases hgo : i < a.size ∧ i < b.size
    · obtain ⟨h1, h2⟩ := hgo
      have hst := bb_drop a b i h1 h2
      have i1 : (i : Int) < (a.size : Int) := by omega
      have i2 : (i : Int) < (b.size : Int) := by omega
      have u1 : (i : Int) < (a.data.size : Int) := i1
      have u2 : (i : Int) < (b.data.size : Int) := i2
      generalize hX : a[i] = X at *
      generalize hY : b[i] = Y at *
      have HST := Lib.hid hst
      clear hst
      by_cases hxy : X = Y
      · subst hxy
        go_wp2
        go_quiet (fail)
        go_wp2
        go_roundw
        case rel => exact ⟨i + 1, by go_num, h1, h2, by rw [← HE.out, HST.out]; simp [UInt8.lt_irrefl], drewNZ HBL.out _⟩
        case measure => simp [intOf]; omega
      · have hne : ((X.toNat : Int) == (Y.toNat : Int)) = false := by
          have : X.toNat ≠ Y.toNat := fun h => hxy (UInt8.toNat_inj.1 h)
          simp
          omega
        have hres : decide ((X.toNat : Int) < (Y.toNat : Int)) = bytesBefore a.data.toList b.data.toList := by
          rw [← HE.out, HST.out]
          have e : (X == Y) = false := by simpa using hxy
          rw [e]
          by_cases hl : X < Y
          · have := UInt8.lt_iff_toNat_lt.1 hl
            simp [hl]
            omega
          · have h3 : ¬ X.toNat < Y.toNat := fun h => hl (UInt8.lt_iff_toNat_lt.2 h)
            simp [hl]
            omega
        have HRES := Lib.hid hres
        clear hres
        go_wp2
        go_quiet (fail)
        go_wp2
        go_quiet (fail)
        go_wp2
        go_ret
        exact ⟨by rw [← HRES.out]; simp, drewNZ (drewNZ HBL.out _) _⟩
    · have hres : decide (a.size < b.size) = bytesBefore a.data.toList b.data.toList := by
        rw [← HE.out, bb_end]
        · rw [List.length_drop, List.length_drop]
          have e1 : a.data.toList.length = a.size := rfl
          have e2 : b.data.toList.length = b.size := rfl
          rw [e1, e2]
          apply decide_eq_decide.2
          omega
        · by_cases hl : i < a.size
          · exact .inr (List.drop_of_length_le (by show b.size ≤ i; omega))
          · exact .inl (List.drop_of_length_le (by show a.size ≤ i; omega))
      have HRES := Lib.hid hres
      clear hres
      by_cases h1 : i < a.size
      · have h2 : ¬ i < b.size := fun h => hgo ⟨h1, h⟩
        have i1 : (i : Int) < (a.size : Int) := by omega
        have d2 : decide ((i : Int) < (b.size : Int)) = false := by simp; omega
        clear hgo
        go_wp2
        go_ret
        exact ⟨by rw [← HRES.out]; simp, HBL.out⟩
      · have d1 : decide ((i : Int) < (a.size : Int)) = false := by simp; omega
        clear hgo
        go_wp2
        go_ret
        exact ⟨by rw [← HRES.out]; simp, HBL.out⟩

/- Entries of a directory. -/
def cellZ (p : Nm × Nat) : List Value := [.string ⟨p.1.toArray⟩, .int .i64 (p.2 : Int)]
def cellsZ (d : Dir) : List Value := d.flatMap cellZ
theorem cellsZ_append (a b : Dir) : cellsZ (a ++ b) = cellsZ a ++ cellsZ b := by simp [cellsZ]
theorem cellsZ_length : ∀ d : Dir, (cellsZ d).length = d.length * 2
  | [] => rfl
  | p :: d => by
    have := cellsZ_length d
    have e : cellsZ (p :: d) = cellZ p ++ cellsZ d := rfl
    rw [e, List.length_append, this, List.length_cons]
    simp only [cellZ, List.length_cons, List.length_nil]
    omega
theorem cellsZ_one (d : Dir) : ∀ u ∈ cellsZ d, u.oneCell' = true := by
  intro u hu
  obtain ⟨x, -, hx⟩ := List.mem_flatMap.1 hu
  simp only [cellZ, List.mem_cons, List.not_mem_nil, or_false] at hx
  rcases hx with rfl | rfl <;> rfl
theorem cellsZ_get : ∀ (d : Dir) (i : Nat) (h : i < d.length) (j : Nat) (u : Value), (cellZ d[i])[j]? = some u → (cellsZ d)[i * 2 + j]? = some u
  | [], _, h, _, _, _ => by cases h
  | x :: l, i, h, j, u, hu => by
    have hc : cellsZ (x :: l) = cellZ x ++ cellsZ l := rfl
    have hl : (cellZ x).length = 2 := rfl
    rw [hc]
    match i, h, hu with
    | 0, _, hu =>
      have hu' : (cellZ x)[j]? = some u := hu
      have hj := (List.getElem?_eq_some_iff.1 hu').1
      rw [Nat.zero_mul, Nat.zero_add, List.getElem?_append_left hj]
      exact hu'
    | i + 1, h, hu =>
      have ih := cellsZ_get l i (by simpa using h) j u hu
      rw [List.getElem?_append_right (by rw [hl, Nat.add_mul]; omega), hl, show (i + 1) * 2 + j - 2 = i * 2 + j by rw [Nat.add_mul]; omega]
      exact ih
theorem cellsZ_take (l : Dir) (k : Nat) (hk : k ≤ l.length) : cellsZ (l.take k) = (cellsZ l).take (k * 2) := by
  have h1 : cellsZ l = cellsZ (l.take k) ++ cellsZ (l.drop k) := by rw [← cellsZ_append, List.take_append_drop]
  rw [h1, List.take_left']
  rw [cellsZ_length, List.length_take]
  omega
theorem cellsZ_drop (l : Dir) (k : Nat) (hk : k ≤ l.length) : cellsZ (l.drop k) = (cellsZ l).drop (k * 2) := by
  have h1 : cellsZ l = cellsZ (l.take k) ++ cellsZ (l.drop k) := by rw [← cellsZ_append, List.take_append_drop]
  rw [h1, List.drop_left']
  rw [cellsZ_length, List.length_take]
  omega
theorem infoZ : (Tryz.prog.info? 98).map (fun i => (i.zero, i.size, i.bytes)) = some (some (.agg #[.string ⟨#[]⟩, .int .i64 0]), 2, 24) := by kernel_rfl
/-- A directory's entries in a row of a call's own. -/
abbrev DirZ (w : World) (v : Value) (d : Dir) : Prop := RowZ w 98 2 v d.length (cellsZ d)
/-- What can be read of it in every world that comes behind. -/
theorem DirZ.rd {w : World} {v : Value} {d : Dir} (h : DirZ w v d) {a : Option Addr} {c : Nat} (hv : v = .slice a d.length c) (i : Nat) (hi : i < d.length) :
    ∃ g, a = some ⟨g, 0, none⟩ ∧ g < w.heap.size ∧ ob v = some g ∧ w.cell? ⟨g, i * 2, none⟩ = some (.string ⟨d[i].1.toArray⟩) ∧ w.cell? ⟨g, i * 2 + 1, none⟩ = some (.int .i64 (d[i].2 : Int)) := by
  rcases h.cases with ⟨h0, -⟩ | ⟨g, cap, e, ho, -, -, -, hg, hc⟩
  · omega
  · rw [hv] at e
    cases e
    exact ⟨g, rfl, hg, ho, hc _ _ (by have := cellsZ_get d i hi 0 _ rfl; simpa using this), hc _ _ (cellsZ_get d i hi 1 _ rfl)⟩
def fnd (d : Dir) (n : Nm) : Int := if d.findIdx (fun p => p.1 == n) < d.length then (d.findIdx (fun p => p.1 == n) : Int) else -1
theorem fnd_at {d : Dir} {n : Nm} {k : Nat} (hk : k < d.length) (hb : ∀ j (h : j < d.length), j < k → d[j].1 ≠ n) (he : d[k].1 = n) : fnd d n = (k : Int) := by
  have : d.findIdx (fun p => p.1 == n) = k := (List.findIdx_eq hk).2 ⟨by simpa using he, fun j hj => by simpa using hb j (by omega) hj⟩
  unfold fnd
  rw [this, if_pos hk]
theorem fnd_no {d : Dir} {n : Nm} (hb : ∀ j (h : j < d.length), d[j].1 ≠ n) : fnd d n = -1 := by
  have : d.findIdx (fun p => p.1 == n) = d.length := List.findIdx_eq_length.2 fun x hx => by
    obtain ⟨j, hj, rfl⟩ := List.getElem_of_mem hx
    simpa using hb j hj
  unfold fnd
  rw [this, if_neg (Nat.lt_irrefl _)]
theorem fnd_get (d : Dir) (n : Nm) : (fnd d n = -1 ∧ dget d n = none) ∨ ∃ k, ∃ h : k < d.length, fnd d n = (k : Int) ∧ d[k].1 = n ∧ dget d n = some d[k].2 := by
  by_cases h : d.findIdx (fun p => p.1 == n) < d.length
  · right
    have hp := List.findIdx_getElem (w := h)
    refine ⟨_, h, by unfold fnd; rw [if_pos h], by simpa using hp, ?_⟩
    unfold dget
    have : d.find? (fun p => p.1 == n) = some (d[d.findIdx (fun p => p.1 == n)]) := by
      rw [List.find?_eq_some_iff_getElem]
      exact ⟨hp, _, h, rfl, fun j hj => by simpa using List.not_of_lt_findIdx hj⟩
    rw [this]
    rfl
  · left
    have h2 : d.findIdx (fun p => p.1 == n) = d.length := by have := List.findIdx_le_length (p := fun p : Nm × Nat => p.1 == n) (xs := d); omega
    refine ⟨by unfold fnd; rw [if_neg h], ?_⟩
    unfold dget
    have : d.find? (fun p => p.1 == n) = none := List.find?_eq_none.2 fun x hx => by
      have := (List.findIdx_eq_length.1 h2) x hx
      simpa using this
    rw [this]
    rfl
theorem nm_eq {a : Nm} {b : ByteArray} : (⟨a.toArray⟩ : ByteArray) = b ↔ a = b.data.toList := by
  constructor
  · rintro rfl
    simp
  · intro h
    subst h
    rcases b with ⟨d⟩
    simp
set_option maxHeartbeats 2000000 in
set_option maxRecDepth 100000 in
theorem find_any {w : World} {v : Value} {d : Dir} (h : DirZ w v d) (n : ByteArray) (hl : d.length ≤ 1000000) :
    Calls Tryz.prog 53 #[v, .string n] w fun e w' => e = .returned (.int .i64 (fnd d n.data.toList)) ∧ Below w.heap.size w w' := by
  obtain ⟨a, cap, rfl, hlc, hcm⟩ := h.le
  have HR := Lib.hid (fun i hi => h.rd rfl i hi)
  clear h
  go_enter Tryz.func53, Tryz.ntmps53
  go_wp2
  go_loopw [5] (fun iv wr => ∃ k : Nat, iv = .int .i64 (k : Int) ∧ k ≤ d.length ∧ (∀ j (h : j < d.length), j < k → d[j].1 ≠ n.data.toList) ∧ Below w.heap.size w wr) (fun iv _ => d.length - (intOf iv).toNat)
  case atStart => exact ⟨0, rfl, Nat.zero_le _, fun j _ h => by omega, Below.refl _ _⟩
  case round =>
    obtain ⟨k, rfl, hk, hno, hbl⟩ := hrel
    have HN := Lib.hid hno
    have HBL := Lib.hid hbl
    clear hno hbl
    by_cases hlt : k < d.length
    · have hkI : (k : Int) < (d.length : Int) := by omega
      obtain ⟨g, rfl, hg, -, q0, -⟩ := HR.out k hlt
      have z0 := (HBL.out.cell (p := ⟨g, k * 2, none⟩) hg).trans q0
      clear q0
      by_cases he : d[k].1 = n.data.toList
      · have HE := Lib.hid (fnd_at hlt HN.out he)
        rw [nm_eq.2 he] at z0
        clear he
        go_wp2
        go_ret
        rw [HE.out]
        exact ⟨rfl, HBL.out⟩
      · have HE := Lib.hid he
        have hne : ((⟨d[k].1.toArray⟩ : ByteArray).toList == n.toList) = false := by
          rw [beq_eq_false_iff_ne]
          intro h
          rw [ByteArray.toList_eq, ByteArray.toList_eq] at h
          exact he h
        clear he
        generalize (⟨d[k].1.toArray⟩ : ByteArray) = NM at *
        go_wp2
        go_roundw
        case rel => exact ⟨k + 1, by go_num, hlt, fun j h hj => by rcases Nat.lt_succ_iff_lt_or_eq.1 hj with h1 | h1; exact HN.out j h h1; subst h1; exact HE.out, HBL.out⟩
        case measure => simp [intOf]; omega
    · have HE := Lib.hid (fnd_no (d := d) (n := n.data.toList) fun j h => HN.out j h (by omega))
      have dk : decide ((k : Int) < (d.length : Int)) = false := by simp; omega
      go_wp2
      go_ret
      rw [HE.out]
      exact ⟨rfl, HBL.out⟩
end Go.Proofs.YtfndlfnlepndmaaGreat

namespace Go.Proofs.YtfndlfnlepndmaaGreat
open Go.RowKit

theorem noneZ {k : Nat} {α : Prop} (h : ob (.slice none 0 0) = some k) : α := by cases h
theorem blockZ (w : World) (o : Obj) {n : Nat} (hn : n = w.heap.size) : (w.alloc o).heap[n]? = some o := by subst hn; exact heap_alloc_new w o
theorem rowZ_below {w w' : World} {e : TypeId} {size : Nat} {v : Value} {n : Nat} {xs : List Value} (h : Row w e size v n xs) (hb : Below w.heap.size w w') : Row w' e size v n xs := h.kept fun k hk => hb.block k (h.lt k hk)
theorem srcZ_new (x : Nm × Nat) (w : World) : Src Tryz.prog 2 71 (.slice (some ⟨w.heap.size, 0, none⟩) 1 1) 1 [.string ⟨x.1.toArray⟩, .int .i64 (x.2 : Int)] (w.alloc (.cells #[.string ⟨x.1.toArray⟩, .int .i64 (x.2 : Int)] 98)) :=
  Src.ofSlice (P := Tryz.prog) _ (size := 2) Tryz.underlying71 ⟨w.heap.size, 0, none⟩ 1 1 _ rfl (fun j u hu => by
    match j, hu with
    | 0, hu => simpa [Addr.add] using hu
    | 1, hu => simpa [Addr.add] using hu) (by simp [Value.oneCell'])
theorem srcZ_at (x : Nm × Nat) {w : World} {b : Nat} (h : w.heap[b]? = some (.cells #[.string ⟨x.1.toArray⟩, .int .i64 (x.2 : Int)] 98)) : Src Tryz.prog 2 71 (.slice (some ⟨b, 0, none⟩) 1 1) 1 [.string ⟨x.1.toArray⟩, .int .i64 (x.2 : Int)] w :=
  Src.ofSlice (P := Tryz.prog) _ (size := 2) Tryz.underlying71 ⟨b, 0, none⟩ 1 1 _ rfl (fun j u hu => by
    rw [addr0]
    match j, hu with
    | 0, hu => simpa [World.cell?, h] using hu
    | 1, hu => simpa [World.cell?, h] using hu) (by simp [Value.oneCell'])
theorem ddel_take (d : Dir) (n : Nm) (k : Nat) (h : k < d.length) : ddel (d.take (k + 1)) n = ddel (d.take k) n ++ (if d[k].1 = n then [] else [d[k]]) := by
  unfold ddel
  rw [List.take_succ_eq_append_getElem h, List.filter_append]
  congr 1
  by_cases e : d[k].1 = n <;> simp [e]
set_option maxHeartbeats 4000000 in
set_option maxRecDepth 100000 in
theorem del_any {w : World} {v : Value} {d : Dir} (h : DirZ w v d) (n : ByteArray) (hl : d.length ≤ 1000000) :
    Calls Tryz.prog 164 #[v, .string n] w fun e w' => ∃ v', e = .returned v' ∧ DirZ w' v' (ddel d n.data.toList) ∧ (∀ b, ob v' = some b → w.heap.size ≤ b) ∧ Below w.heap.size w w' := by
  obtain ⟨a, cap, rfl, hlc, hcm⟩ := h.le
  have HR := Lib.hid (fun i hi => h.rd rfl i hi)
  obtain ⟨i0, hi0, hz0, hzs, hzb⟩ := info_parts infoZ
  clear h
  go_enter Tryz.func164, Tryz.ntmps164
  go_wp2
  go_loopw [5, 6] (fun ov iv wr => ∃ (k : Nat) (V : Value), V = ov ∧ iv = .int .i64 (k : Int) ∧ k ≤ d.length ∧ DirZ wr V (ddel (d.take k) n.data.toList) ∧ (∀ b, ob V = some b → w.heap.size ≤ b) ∧ Below w.heap.size w wr) (fun _ iv _ => d.length - (intOf iv).toNat)
  case atStart => exact ⟨0, _, rfl, rfl, Nat.zero_le _, rowZ_nil _ _ _, fun b hb => noneZ hb, Below.refl _ _⟩
  case round =>
    obtain ⟨k, V, rfl, rfl, hk, hrow, hob, hbl⟩ := hrel
    have HRW := Lib.hid hrow
    have HOB := Lib.hid hob
    have HBL := Lib.hid hbl
    clear hrow hob hbl
    by_cases hlt : k < d.length
    · have hkI : (k : Int) < (d.length : Int) := by omega
      obtain ⟨g, rfl, hg, -, q0, q1⟩ := HR.out k hlt
      have z0 := (HBL.out.cell (p := ⟨g, k * 2, none⟩) hg).trans q0
      have z1 := (HBL.out.cell (p := ⟨g, k * 2 + 1, none⟩) hg).trans q1
      have HST := Lib.hid (ddel_take d n.data.toList k hlt)
      have hdl : (ddel (d.take k) n.data.toList).length ≤ 1000000 := by
        have := length_ddel (d.take k) n.data.toList
        rw [List.length_take] at this
        omega
      clear q0 q1
      by_cases he : d[k].1 = n.data.toList
      · rw [if_pos he] at HST
        have hEq : ((⟨d[k].1.toArray⟩ : ByteArray).toList == n.toList) = true := by
          rw [nm_eq.2 he]
          simp
        generalize (⟨d[k].1.toArray⟩ : ByteArray) = NM at *
        clear he
        go_wp2
        go_roundw
        case rel => exact ⟨k + 1, V, rfl, by go_num, hlt, by rw [HST.out, List.append_nil]; exact HRW.out, HOB.out, HBL.out⟩
        case measure => simp [intOf]; omega
      · rw [if_neg he] at HST
        have hne : (!(d[k].1 == n.toList)) = true := by
          rw [ByteArray.toList_eq]
          simpa using he
        clear he
        generalize d[k] = x at *
        generalize ddel (d.take k) n.data.toList = L at *
        have HBa := Lib.hid (show L.length + 1 ≤ maxLen by unfold maxLen; omega)
        have HBb := Lib.hid (show (L.length + 1) * 24 ≤ 140737488355328 by omega)
        go_wp2_with (at_builtin; refine wpList_append_row _ rfl _ _ 71 71 rfl 98 i0 _ 2 24 Tryz.underlying71 hi0 hz0 hzs hzb rfl V _ _ rfl (rowZ_below HRW.out.1 ((Below.refl _ _).alloc (Nat.le_refl _) _)) _ rfl 1 _ (srcZ_new x _) HBa.out HBb.out ?_; intro v' w5 hrow5 hgrow5 hob5)
        have hB4 : Below w.heap.size w (wr.alloc (.cells #[.string ⟨x.1.toArray⟩, .int .i64 (x.2 : Int)] 98)) := HBL.out.alloc HBL.out.size _
        have hB5 : Below w.heap.size w w5 := hB4.trans ((turn_of_grown (F := (ob V).toList) hgrow5 (fun k hk => .inl (by simp [hk]))).below hB4.size (fun k hk => HOB.out k (by simpa using hk)))
        go_roundw
        case rel =>
          refine ⟨k + 1, v', rfl, by go_num, hlt, ?_, fun b hb => ?_, hB5⟩
          · rw [HST.out]
            refine ⟨?_, fun h => by simp at h⟩
            rw [List.length_append, cellsZ_append]
            exact hrow5
          · exact ob_new2 hob5 hB4.size HOB.out b hb
        case measure => simp [intOf]; omega
    · have hkk : k = d.length := by omega
      have hfin : DirZ wr V (ddel d n.data.toList) := by
        have := HRW.out
        rw [hkk, List.take_length] at this
        exact this
      have HF := Lib.hid hfin
      have dk : decide ((k : Int) < (d.length : Int)) = false := by simp; omega
      clear hfin
      go_wp2
      go_ret
      exact ⟨V, rfl, HF.out, HOB.out, HBL.out⟩
theorem dins_cut (x : Nm × Nat) : ∀ D : Dir, (∀ p ∈ D, p.1 ≠ x.1) → ∃ Pp Qq : Dir, D = Pp ++ Qq ∧ dins x D = Pp ++ x :: Qq ∧ (∀ p ∈ Pp, bytesBefore p.1 x.1 = true) ∧ ∀ q r, Qq = q :: r → bytesBefore q.1 x.1 = false
  | [], _ => ⟨[], [], rfl, rfl, fun p h => by (cases h), fun q r h => by (cases h)⟩
  | y :: r, h => by
    have hy := h y List.mem_cons_self
    by_cases hb : bytesBefore x.1 y.1 = true
    · refine ⟨[], y :: r, rfl, by rw [dins, if_pos hb]; rfl, fun p h => by (cases h), fun q r' e => ?_⟩
      cases e
      cases hc : bytesBefore y.1 x.1 with
      | false => rfl
      | true =>
        have := WideShapes.bytes_trans _ _ _ hb hc
        rw [WideAt.bytes_irrefl] at this
        cases this
    · obtain ⟨Pp, Qq, e1, e2, h1, h2⟩ := dins_cut x r fun p hp => h p (List.mem_cons_of_mem _ hp)
      refine ⟨y :: Pp, Qq, by rw [e1]; rfl, by rw [dins, if_neg hb, e2]; rfl, fun p hp => ?_, h2⟩
      rcases List.mem_cons.1 hp with rfl | hp
      · rcases WideAt.bytes_total p.1 x.1 hy with h' | h'
        · exact h'
        · exact absurd h' hb
      · exact h1 p hp
/-- A part of a row as what is appended. -/
theorem srcZ_part {w : World} {g : Nat} {D : Dir} (hc : ∀ j u, (cellsZ D)[j]? = some u → w.cell? ⟨g, j, none⟩ = some u) (Pp Qq : Dir) (hD : D = Pp ++ Qq) (cap : Nat) :
    Src Tryz.prog 2 71 (.slice (some ⟨g, 0, none⟩) Pp.length cap) Pp.length (cellsZ Pp) w ∧ Src Tryz.prog 2 71 (.slice (some ⟨g, Pp.length * 2, none⟩) Qq.length cap) Qq.length (cellsZ Qq) w := by
  constructor
  · refine Src.ofSlice (P := Tryz.prog) _ (size := 2) Tryz.underlying71 ⟨g, 0, none⟩ Pp.length cap _ (cellsZ_length _) (fun j u hu => ?_) (cellsZ_one _)
    rw [addr0]
    refine hc j u ?_
    rw [hD, cellsZ_append, List.getElem?_append_left (List.getElem?_eq_some_iff.1 hu).1]
    exact hu
  · refine Src.ofSlice (P := Tryz.prog) _ (size := 2) Tryz.underlying71 ⟨g, Pp.length * 2, none⟩ Qq.length cap _ (cellsZ_length _) (fun j u hu => ?_) (cellsZ_one _)
    rw [addrO]
    refine hc _ u ?_
    rw [hD, cellsZ_append, List.getElem?_append_right (by rw [cellsZ_length]; omega), cellsZ_length]
    rw [show Pp.length * 2 + j - Pp.length * 2 = j by omega]
    exact hu
set_option maxHeartbeats 8000000 in
set_option maxRecDepth 100000 in
theorem set_any {w : World} {v : Value} {d : Dir} (h : DirZ w v d) (name : ByteArray) (a : Nat) (hl : d.length ≤ 1000000) (hn : name.size ≤ 9223372036854775807) (hk : ∀ p ∈ d, p.1.length ≤ 9223372036854775807) :
    Calls Tryz.prog 163 #[v, .string name, .int .i64 (a : Int)] w fun e w' => ∃ v', e = .returned v' ∧ DirZ w' v' (dput d name.data.toList a) ∧ (∀ b, ob v' = some b → w.heap.size ≤ b) ∧ Below w.heap.size w w' := by
  obtain ⟨nm, rfl⟩ : ∃ nm : Nm, name = ⟨nm.toArray⟩ := ⟨name.data.toList, by simp⟩
  obtain ⟨i0, hi, hz0, hzs, hzb⟩ := info_parts infoZ
  obtain ⟨D, hD⟩ : ∃ D, D = ddel d nm := ⟨_, rfl⟩
  have hDl : D.length ≤ 1000000 := by have := length_ddel d nm; rw [← hD] at this; omega
  have hkD : ∀ p ∈ D, p.1.length ≤ 9223372036854775807 := fun p hp => hk p (by rw [hD] at hp; exact (mem_ddel.1 hp).1)
  obtain ⟨Pp, Qq, hPQ, hins, hP, hQ⟩ := dins_cut (nm, a) D fun p hp => by rw [hD] at hp; exact (mem_ddel.1 hp).2
  have CD := Lib.hid (del_any h ⟨nm.toArray⟩ hl)
  have HIN := Lib.hid (show dput d nm a = Pp ++ (nm, a) :: Qq by unfold dput; rw [← hD]; exact hins)
  have HDE := Lib.hid hD
  have HPQ := Lib.hid hPQ
  have HP := Lib.hid hP
  have HQ1 := Lib.hid hQ
  have HKD := Lib.hid hkD
  have HEL := Lib.hid (show D.length = Pp.length + Qq.length by rw [hPQ]; simp)
  have hpl : Pp.length ≤ D.length := by rw [HEL.out]; omega
  have HFIN := Lib.hid (show ∀ (W : World) (V : Value), Row W 98 2 V (D.length + 1) (cellsZ Pp ++ [.string ⟨nm.toArray⟩, .int .i64 (a : Int)] ++ cellsZ Qq) → DirZ W V (dput d nm a) from fun W V hr => by
    rw [HIN.out]
    refine ⟨?_, fun h0 => by simp at h0⟩
    rw [show (Pp ++ (nm, a) :: Qq).length = D.length + 1 by rw [HEL.out]; simp; omega, show cellsZ (Pp ++ (nm, a) :: Qq) = cellsZ Pp ++ [.string ⟨nm.toArray⟩, .int .i64 (a : Int)] ++ cellsZ Qq by rw [cellsZ_append]; simp [cellsZ, cellZ]]
    exact hr)
  clear hD hins hP hQ hkD hPQ h hk
  go_enter Tryz.func163, Tryz.ntmps163
  go_wp2_with (first | (go_at_call 164; (with_reducible refine (CD.out).mono ?_); rintro e w1 ⟨v1, rfl, hrow1, hfr1, hb1⟩) | fail)
  have HRD := Lib.hid (show DirZ w1 v1 D by rw [HDE.out]; exact hrow1)
  have HB1 := Lib.hid hb1
  clear hrow1 hfr1 hb1
  obtain ⟨av, cap, rfl, hlc, hcm⟩ := HRD.out.le
  have HR := Lib.hid (fun i hi => HRD.out.rd rfl i hi)
  go_loopw [7] (fun kv wr => ∃ k : Nat, kv = .int .i64 (k : Int) ∧ k ≤ Pp.length ∧ Below w1.heap.size w1 wr) (fun kv _ => D.length - (intOf kv).toNat)
  case atStart => exact ⟨0, rfl, Nat.zero_le _, Below.refl _ _⟩
  case round =>
    obtain ⟨k, rfl, hkP, hbl⟩ := hrel
    have HBL := Lib.hid hbl
    clear hbl
    have hcap : cap ≤ 9223372036854775807 := by unfold maxLen at hcm; omega
    have hkc : (k : Int) ≤ (cap : Int) := by omega
    have hkc2 : k ≤ cap := by omega
    have hkl : (k : Int) ≤ (D.length : Int) := by omega
    by_cases hlt : k < D.length
    · have hkI : (k : Int) < (D.length : Int) := by omega
      obtain ⟨g, rfl, hg, -, q0, -⟩ := HR.out k hlt
      have z0 := (HBL.out.cell (p := ⟨g, k * 2, none⟩) hg).trans q0
      have hgr : g < wr.heap.size := Nat.lt_of_lt_of_le hg HBL.out.size
      have CL := Lib.hid (fun W => dless_any ⟨D[k].1.toArray⟩ ⟨nm.toArray⟩ W (HKD.out _ (List.getElem_mem _)) hn)
      by_cases hkp : k < Pp.length
      · have hlt2 : bytesBefore D[k].1 nm = true := by
          have e1 : (Pp ++ Qq)[k]? = some D[k] := by rw [← HPQ.out]; exact List.getElem?_eq_getElem hlt
          rw [List.getElem?_append_left hkp] at e1
          exact HP.out _ (List.mem_of_getElem? e1)
        have CL2 := Lib.hid (fun W => (CL.out W).mono fun e w' h => show e = .returned (.bool true) ∧ Below W.heap.size W w' by rw [← hlt2]; exact h)
        clear hlt2 CL q0
        go_wp2_with (first | (go_at_call 170; (with_reducible refine (CL2.out _).mono ?_); rintro e w3 ⟨rfl, hb3⟩) | fail)
        go_roundw
        case rel => exact ⟨k + 1, by go_num, hkp, HBL.out.trans (hb3.mono HBL.out.size)⟩
        case measure => simp [intOf]; omega
      · have hkk : k = Pp.length := by omega
        have HKK := Lib.hid hkk
        have hge : bytesBefore D[k].1 nm = false := by
          have e1 : (Pp ++ Qq)[k]? = some D[k] := by rw [← HPQ.out]; exact List.getElem?_eq_getElem hlt
          rw [List.getElem?_append_right (by omega)] at e1
          cases hq : Qq with
          | nil => rw [hq] at e1; simp at e1
          | cons q r =>
            rw [hq, show k - Pp.length = 0 by omega] at e1
            have e2 : q = D[k] := Option.some.inj e1
            have := HQ1.out q r hq
            rw [e2] at this
            exact this
        have CL2 := Lib.hid (fun W => (CL.out W).mono fun e w' h => show e = .returned (.bool false) ∧ Below W.heap.size W w' by rw [← hge]; exact h)
        clear hge CL q0 hkk
        go_wp2_with (first | (go_at_call 170; (with_reducible refine (CL2.out _).mono ?_); rintro e wt ⟨rfl, hb3⟩) | fail)
        have HBT2 := Lib.hid (show Below w1.heap.size w1 wt from HBL.out.trans (hb3.mono HBL.out.size))
        have HBT := Lib.hid (show Below w.heap.size w wt from HB1.out.trans (HBT2.out.mono HB1.out.size))
        clear hb3
        have HSA := Lib.hid (show ∀ W', Below w1.heap.size w1 W' → Src Tryz.prog 2 71 (.slice (some ⟨g, 0, none⟩) k cap) k (cellsZ Pp) W' from fun W' hb => by
          rw [HKK.out]
          exact (srcZ_part (fun j u hu => (hb.cell (p := ⟨g, j, none⟩) hg).trans (HRD.out.cells' rfl j u hu)) Pp Qq HPQ.out cap).1)
        have HSB := Lib.hid (show ∀ W', Below w1.heap.size w1 W' → Src Tryz.prog 2 71 (.slice (some ⟨g, k * 2, none⟩) (D.length - k) (cap - k)) (D.length - k) (cellsZ Qq) W' from fun W' hb => by
          have hq : D.length - k = Qq.length := by have := HEL.out; have := HKK.out; omega
          rw [hq, HKK.out]
          exact (srcZ_part (fun j u hu => (hb.cell (p := ⟨g, j, none⟩) hg).trans (HRD.out.cells' rfl j u hu)) Pp Qq HPQ.out _).2)
        clear z0
        have hck : ¬ cap = k := by omega
        have HS1 := Lib.hid (show ∀ W', Below wt.heap.size wt W' → Src Tryz.prog 2 71 (.slice (some ⟨g, 0, none⟩) k cap) k (cellsZ Pp) W' from fun W' hb => HSA.out W' (HBT2.out.trans (hb.mono HBT2.out.size)))
        have HS3 := Lib.hid (show ∀ W', Below wt.heap.size wt W' → Src Tryz.prog 2 71 (.slice (some ⟨g, k * 2, none⟩) (D.length - k) (cap - k)) (D.length - k) (cellsZ Qq) W' from fun W' hb => HSB.out W' (HBT2.out.trans (hb.mono HBT2.out.size)))
        have HBa := Lib.hid (show 0 + k ≤ maxLen by unfold maxLen; omega)
        have HBb := Lib.hid (show (0 + k) * 24 ≤ 140737488355328 by omega)
        have HBc := Lib.hid (show k + 1 ≤ maxLen by unfold maxLen; omega)
        have HBd := Lib.hid (show (k + 1) * 24 ≤ 140737488355328 by omega)
        have HBe := Lib.hid (show k + 1 + (D.length - k) ≤ maxLen by unfold maxLen; omega)
        have HBf := Lib.hid (show (k + 1 + (D.length - k)) * 24 ≤ 140737488355328 by omega)
        go_region_law (first | (refine step_append_row _ rfl (.const (.slice none 0 0)) (.tmp 28) 71 71 rfl 98 i0 _ 2 24 Tryz.underlying71 hi hz0 hzs hzb rfl (.slice none 0 0) 0 [] rfl (row_nil _ _ _) _ (by simp [Act.eval, Act.put]) (k) (cellsZ Pp) (HS1.out _ ((Below.refl _ _).drew)) HBa.out HBb.out ?_; intro v1 w1 hrow1 hgrow1 hob1; have hB1 : Below wt.heap.size wt w1 := below_row2 ((Below.refl _ _).drew) (Nat.le_refl _) hgrow1 (fun b hb => noneZ hb); have hv1 : ∀ b, ob v1 = some b → wt.heap.size ≤ b := fun b hb => ob_new2 hob1 (Nat.le_refl _) (fun b hb => noneZ hb) b hb; rw [Nat.zero_add, List.nil_append] at hrow1) | (refine step_append_row _ rfl (.const (.slice none 0 0)) (.tmp 28) 71 71 rfl 98 i0 _ 2 24 Tryz.underlying71 hi hz0 hzs hzb rfl (.slice none 0 0) 0 [] rfl (row_nil _ _ _) _ (by simp [Act.eval]) (k) (cellsZ Pp) (HS1.out _ (((Below.refl _ _).drew).alloc (Nat.le_refl _) _)) HBa.out HBb.out ?_; intro v1 w1 hrow1 hgrow1 hob1; have hB1 : Below wt.heap.size wt w1 := below_row2 (((Below.refl _ _).drew).alloc (Nat.le_refl _) _) (Nat.le_refl _) hgrow1 (fun b hb => noneZ hb); have hv1 : ∀ b, ob v1 = some b → wt.heap.size ≤ b := fun b hb => ob_new2 hob1 (by simp) (fun b hb => noneZ hb) b hb; rw [Nat.zero_add, List.nil_append] at hrow1; have hsx := (hgrow1.block wt.heap.size (by simp) (fun e => noneZ e.symm)).trans (blockZ _ _ (by simp))) | (refine step_append_row _ rfl (.tmp 29) (.tmp 33) 71 71 rfl 98 i0 _ 2 24 Tryz.underlying71 hi hz0 hzs hzb rfl v1 (k) (cellsZ Pp) (by simp [Act.eval]) (rowZ_below hrow1 ((Below.refl _ _).alloc (Nat.le_refl _) _)) _ (by simp [Act.eval]) 1 [.string ⟨nm.toArray⟩, .int .i64 (a : Int)] (srcZ_new (nm, a) _) HBc.out HBd.out ?_; intro v2 w2 hrow2 hgrow2 hob2; have hB2 : Below wt.heap.size wt w2 := below_row2 (hB1.alloc hB1.size _) (Nat.le_refl _) hgrow2 hv1; have hv2 : ∀ b, ob v2 = some b → wt.heap.size ≤ b := fun b hb => ob_new2 hob2 (by have := hB1.size; simp; omega) hv1 b hb) | (refine step_append_row _ rfl (.tmp 29) (.tmp 33) 71 71 rfl 98 i0 _ 2 24 Tryz.underlying71 hi hz0 hzs hzb rfl v1 (k) (cellsZ Pp) (by simp [Act.eval]) hrow1 _ (by simp [Act.eval]) 1 [.string ⟨nm.toArray⟩, .int .i64 (a : Int)] (srcZ_at (nm, a) hsx) HBc.out HBd.out ?_; intro v2 w2 hrow2 hgrow2 hob2; have hB2 : Below wt.heap.size wt w2 := below_row2 hB1 (Nat.le_refl _) hgrow2 hv1; have hv2 : ∀ b, ob v2 = some b → wt.heap.size ≤ b := fun b hb => ob_new2 hob2 hB1.size hv1 b hb) | (refine step_append_row _ rfl (.tmp 34) (.tmp 37) 71 71 rfl 98 i0 _ 2 24 Tryz.underlying71 hi hz0 hzs hzb rfl v2 (k + 1) (cellsZ Pp ++ [.string ⟨nm.toArray⟩, .int .i64 (a : Int)]) (by simp [Act.eval]) hrow2 _ (by simp [Act.eval]) (D.length - k) (cellsZ Qq) (HS3.out _ hB2) HBe.out HBf.out ?_; intro v3 w3 hrow3 hgrow3 hob3; have hB3 : Below wt.heap.size wt w3 := below_row2 hB2 (Nat.le_refl _) hgrow3 hv2; have hv3 : ∀ b, ob v3 = some b → wt.heap.size ≤ b := fun b hb => ob_new2 hob3 hB2.size hv2 b hb) | fail)
        all_goals go_wp2
        all_goals go_ret
        all_goals
          refine ⟨v3, rfl, ?_, fun b hb => Nat.le_trans HBT.out.size (hv3 b hb), HBT.out.trans (hB3.mono HBT.out.size)⟩
          rw [show k + 1 + (D.length - k) = D.length + 1 by omega] at hrow3
          exact HFIN.out _ _ hrow3
    · have HKK := Lib.hid (show k = Pp.length by have := HEL.out; omega)
      have HKD := Lib.hid (show k = D.length by omega)
      have HQ := Lib.hid (show Qq = [] from List.eq_nil_of_length_eq_zero (by have := HEL.out; omega))
      have dk : decide ((k : Int) < (D.length : Int)) = false := by simp; omega
      go_wp2_with fail
      rcases HRD.out.cases with ⟨h0, hv0, hc0⟩ | ⟨g, c', hv', -, -, -, -, hg, hcc⟩
      · have HD0 := Lib.hid h0
        have HP0 := Lib.hid (show Pp = [] from List.eq_nil_of_length_eq_zero (by have := HEL.out; omega))
        have hk0 : k = 0 := by have := HKD.out; omega
        subst hk0
        rw [h0] at hv0
        simp only [Value.slice.injEq] at hv0
        obtain ⟨rfl, -, rfl⟩ := hv0
        rw [h0]
        obtain ⟨wt, hwt⟩ : ∃ wt, wr = wt := ⟨_, rfl⟩
        have HBT := Lib.hid (show Below w.heap.size w wt by rw [← hwt]; exact HB1.out.trans (HBL.out.mono HB1.out.size))
        rw [hwt]
        clear hwt
        have HS1 := Lib.hid (show ∀ W', Below wt.heap.size wt W' → Src Tryz.prog 2 71 (.slice none 0 0) 0 (cellsZ Pp) W' from fun W' _ => by rw [HP0.out]; exact Src.ofNil _ Tryz.underlying71 0)
        have HS3 := Lib.hid (show ∀ W', Below wt.heap.size wt W' → Src Tryz.prog 2 71 (.slice none 0 0) 0 (cellsZ Qq) W' from fun W' _ => by rw [HQ.out]; exact Src.ofNil _ Tryz.underlying71 0)
        have HBa := Lib.hid (show 0 + 0 ≤ maxLen by unfold maxLen; omega)
        have HBb := Lib.hid (show (0 + 0) * 24 ≤ 140737488355328 by omega)
        have HBc := Lib.hid (show 0 + 1 ≤ maxLen by unfold maxLen; omega)
        have HBd := Lib.hid (show (0 + 1) * 24 ≤ 140737488355328 by omega)
        have HBe := Lib.hid (show 0 + 1 + (0) ≤ maxLen by unfold maxLen; omega)
        have HBf := Lib.hid (show (0 + 1 + (0)) * 24 ≤ 140737488355328 by omega)
        go_region_law (first | (refine step_append_row _ rfl (.const (.slice none 0 0)) (.tmp 28) 71 71 rfl 98 i0 _ 2 24 Tryz.underlying71 hi hz0 hzs hzb rfl (.slice none 0 0) 0 [] rfl (row_nil _ _ _) _ (by simp [Act.eval, Act.put]) (0) (cellsZ Pp) (HS1.out _ ((Below.refl _ _).drew)) HBa.out HBb.out ?_; intro v1 w1 hrow1 hgrow1 hob1; have hB1 : Below wt.heap.size wt w1 := below_row2 ((Below.refl _ _).drew) (Nat.le_refl _) hgrow1 (fun b hb => noneZ hb); have hv1 : ∀ b, ob v1 = some b → wt.heap.size ≤ b := fun b hb => ob_new2 hob1 (Nat.le_refl _) (fun b hb => noneZ hb) b hb; rw [Nat.zero_add, List.nil_append] at hrow1) | (refine step_append_row _ rfl (.const (.slice none 0 0)) (.tmp 28) 71 71 rfl 98 i0 _ 2 24 Tryz.underlying71 hi hz0 hzs hzb rfl (.slice none 0 0) 0 [] rfl (row_nil _ _ _) _ (by simp [Act.eval]) (0) (cellsZ Pp) (HS1.out _ (((Below.refl _ _).drew).alloc (Nat.le_refl _) _)) HBa.out HBb.out ?_; intro v1 w1 hrow1 hgrow1 hob1; have hB1 : Below wt.heap.size wt w1 := below_row2 (((Below.refl _ _).drew).alloc (Nat.le_refl _) _) (Nat.le_refl _) hgrow1 (fun b hb => noneZ hb); have hv1 : ∀ b, ob v1 = some b → wt.heap.size ≤ b := fun b hb => ob_new2 hob1 (by simp) (fun b hb => noneZ hb) b hb; rw [Nat.zero_add, List.nil_append] at hrow1; have hsx := (hgrow1.block wt.heap.size (by simp) (fun e => noneZ e.symm)).trans (blockZ _ _ (by simp))) | (refine step_append_row _ rfl (.tmp 29) (.tmp 33) 71 71 rfl 98 i0 _ 2 24 Tryz.underlying71 hi hz0 hzs hzb rfl v1 (0) (cellsZ Pp) (by simp [Act.eval]) (rowZ_below hrow1 ((Below.refl _ _).alloc (Nat.le_refl _) _)) _ (by simp [Act.eval]) 1 [.string ⟨nm.toArray⟩, .int .i64 (a : Int)] (srcZ_new (nm, a) _) HBc.out HBd.out ?_; intro v2 w2 hrow2 hgrow2 hob2; have hB2 : Below wt.heap.size wt w2 := below_row2 (hB1.alloc hB1.size _) (Nat.le_refl _) hgrow2 hv1; have hv2 : ∀ b, ob v2 = some b → wt.heap.size ≤ b := fun b hb => ob_new2 hob2 (by have := hB1.size; simp; omega) hv1 b hb) | (refine step_append_row _ rfl (.tmp 29) (.tmp 33) 71 71 rfl 98 i0 _ 2 24 Tryz.underlying71 hi hz0 hzs hzb rfl v1 (0) (cellsZ Pp) (by simp [Act.eval]) hrow1 _ (by simp [Act.eval]) 1 [.string ⟨nm.toArray⟩, .int .i64 (a : Int)] (srcZ_at (nm, a) hsx) HBc.out HBd.out ?_; intro v2 w2 hrow2 hgrow2 hob2; have hB2 : Below wt.heap.size wt w2 := below_row2 hB1 (Nat.le_refl _) hgrow2 hv1; have hv2 : ∀ b, ob v2 = some b → wt.heap.size ≤ b := fun b hb => ob_new2 hob2 hB1.size hv1 b hb) | (refine step_append_row _ rfl (.tmp 34) (.tmp 37) 71 71 rfl 98 i0 _ 2 24 Tryz.underlying71 hi hz0 hzs hzb rfl v2 (0 + 1) (cellsZ Pp ++ [.string ⟨nm.toArray⟩, .int .i64 (a : Int)]) (by simp [Act.eval]) hrow2 _ (by simp [Act.eval]) (0) (cellsZ Qq) (HS3.out _ hB2) HBe.out HBf.out ?_; intro v3 w3 hrow3 hgrow3 hob3; have hB3 : Below wt.heap.size wt w3 := below_row2 hB2 (Nat.le_refl _) hgrow3 hv2; have hv3 : ∀ b, ob v3 = some b → wt.heap.size ≤ b := fun b hb => ob_new2 hob3 hB2.size hv2 b hb) | fail)
        all_goals go_wp2
        all_goals go_ret
        all_goals
          refine ⟨v3, rfl, ?_, fun b hb => Nat.le_trans HBT.out.size (hv3 b hb), HBT.out.trans (hB3.mono HBT.out.size)⟩
          rw [show 0 + 1 + 0 = D.length + 1 by have := HD0.out; omega] at hrow3
          exact HFIN.out _ _ hrow3
      · cases hv'
        obtain ⟨wt, hwt⟩ : ∃ wt, wr = wt := ⟨_, rfl⟩
        have HBT2 := Lib.hid (show Below w1.heap.size w1 wt by rw [← hwt]; exact HBL.out)
        have HBT := Lib.hid (show Below w.heap.size w wt from HB1.out.trans (HBT2.out.mono HB1.out.size))
        rw [hwt]
        clear hwt
        have HSA := Lib.hid (show ∀ W', Below w1.heap.size w1 W' → Src Tryz.prog 2 71 (.slice (some ⟨g, 0, none⟩) k cap) k (cellsZ Pp) W' from fun W' hb => by
          rw [HKK.out]
          exact (srcZ_part (fun j u hu => (hb.cell (p := ⟨g, j, none⟩) hg).trans (HRD.out.cells' rfl j u hu)) Pp Qq HPQ.out cap).1)
        have HSB := Lib.hid (show ∀ W', Below w1.heap.size w1 W' → Src Tryz.prog 2 71 (.slice (some ⟨g, k * 2, none⟩) (D.length - k) (cap - k)) (D.length - k) (cellsZ Qq) W' from fun W' hb => by
          have hq : D.length - k = Qq.length := by have := HEL.out; have := HKK.out; omega
          rw [hq, HKK.out]
          exact (srcZ_part (fun j u hu => (hb.cell (p := ⟨g, j, none⟩) hg).trans (HRD.out.cells' rfl j u hu)) Pp Qq HPQ.out _).2)
        by_cases hck : cap = k
        · skip
          have hif : (if cap = k then (some ⟨g, 0, none⟩ : Option Addr) else some ⟨g, k * 2, none⟩) = some ⟨g, 0, none⟩ := if_pos hck
          clear hck
          have HS1 := Lib.hid (show ∀ W', Below wt.heap.size wt W' → Src Tryz.prog 2 71 (.slice (some ⟨g, 0, none⟩) k cap) k (cellsZ Pp) W' from fun W' hb => HSA.out W' (HBT2.out.trans (hb.mono HBT2.out.size)))
          have HS3 := Lib.hid (show ∀ (oo : Nat) W', Below wt.heap.size wt W' → Src Tryz.prog 2 71 (.slice (some ⟨g, oo, none⟩) (D.length - k) (cap - k)) (D.length - k) (cellsZ Qq) W' from fun oo W' _ => by
            have hq : D.length - k = 0 := by have := HKD.out; omega
            rw [hq, HQ.out]
            exact Src.ofSlice (P := Tryz.prog) _ (size := 2) Tryz.underlying71 ⟨g, oo, none⟩ 0 _ _ rfl (fun j u hu => by cases hu) (by simp [cellsZ]))
          have HBa := Lib.hid (show 0 + k ≤ maxLen by unfold maxLen; omega)
          have HBb := Lib.hid (show (0 + k) * 24 ≤ 140737488355328 by omega)
          have HBc := Lib.hid (show k + 1 ≤ maxLen by unfold maxLen; omega)
          have HBd := Lib.hid (show (k + 1) * 24 ≤ 140737488355328 by omega)
          have HBe := Lib.hid (show k + 1 + (D.length - k) ≤ maxLen by unfold maxLen; omega)
          have HBf := Lib.hid (show (k + 1 + (D.length - k)) * 24 ≤ 140737488355328 by omega)
          go_region_law (first | (refine step_append_row _ rfl (.const (.slice none 0 0)) (.tmp 28) 71 71 rfl 98 i0 _ 2 24 Tryz.underlying71 hi hz0 hzs hzb rfl (.slice none 0 0) 0 [] rfl (row_nil _ _ _) _ (by simp [Act.eval, Act.put]) (k) (cellsZ Pp) (HS1.out _ ((Below.refl _ _).drew)) HBa.out HBb.out ?_; intro v1 w1 hrow1 hgrow1 hob1; have hB1 : Below wt.heap.size wt w1 := below_row2 ((Below.refl _ _).drew) (Nat.le_refl _) hgrow1 (fun b hb => noneZ hb); have hv1 : ∀ b, ob v1 = some b → wt.heap.size ≤ b := fun b hb => ob_new2 hob1 (Nat.le_refl _) (fun b hb => noneZ hb) b hb; rw [Nat.zero_add, List.nil_append] at hrow1) | (refine step_append_row _ rfl (.const (.slice none 0 0)) (.tmp 28) 71 71 rfl 98 i0 _ 2 24 Tryz.underlying71 hi hz0 hzs hzb rfl (.slice none 0 0) 0 [] rfl (row_nil _ _ _) _ (by simp [Act.eval]) (k) (cellsZ Pp) (HS1.out _ (((Below.refl _ _).drew).alloc (Nat.le_refl _) _)) HBa.out HBb.out ?_; intro v1 w1 hrow1 hgrow1 hob1; have hB1 : Below wt.heap.size wt w1 := below_row2 (((Below.refl _ _).drew).alloc (Nat.le_refl _) _) (Nat.le_refl _) hgrow1 (fun b hb => noneZ hb); have hv1 : ∀ b, ob v1 = some b → wt.heap.size ≤ b := fun b hb => ob_new2 hob1 (by simp) (fun b hb => noneZ hb) b hb; rw [Nat.zero_add, List.nil_append] at hrow1; have hsx := (hgrow1.block wt.heap.size (by simp) (fun e => noneZ e.symm)).trans (blockZ _ _ (by simp))) | (refine step_append_row _ rfl (.tmp 29) (.tmp 33) 71 71 rfl 98 i0 _ 2 24 Tryz.underlying71 hi hz0 hzs hzb rfl v1 (k) (cellsZ Pp) (by simp [Act.eval]) (rowZ_below hrow1 ((Below.refl _ _).alloc (Nat.le_refl _) _)) _ (by simp [Act.eval]) 1 [.string ⟨nm.toArray⟩, .int .i64 (a : Int)] (srcZ_new (nm, a) _) HBc.out HBd.out ?_; intro v2 w2 hrow2 hgrow2 hob2; have hB2 : Below wt.heap.size wt w2 := below_row2 (hB1.alloc hB1.size _) (Nat.le_refl _) hgrow2 hv1; have hv2 : ∀ b, ob v2 = some b → wt.heap.size ≤ b := fun b hb => ob_new2 hob2 (by have := hB1.size; simp; omega) hv1 b hb) | (refine step_append_row _ rfl (.tmp 29) (.tmp 33) 71 71 rfl 98 i0 _ 2 24 Tryz.underlying71 hi hz0 hzs hzb rfl v1 (k) (cellsZ Pp) (by simp [Act.eval]) hrow1 _ (by simp [Act.eval]) 1 [.string ⟨nm.toArray⟩, .int .i64 (a : Int)] (srcZ_at (nm, a) hsx) HBc.out HBd.out ?_; intro v2 w2 hrow2 hgrow2 hob2; have hB2 : Below wt.heap.size wt w2 := below_row2 hB1 (Nat.le_refl _) hgrow2 hv1; have hv2 : ∀ b, ob v2 = some b → wt.heap.size ≤ b := fun b hb => ob_new2 hob2 hB1.size hv1 b hb) | (refine step_append_row _ rfl (.tmp 34) (.tmp 37) 71 71 rfl 98 i0 _ 2 24 Tryz.underlying71 hi hz0 hzs hzb rfl v2 (k + 1) (cellsZ Pp ++ [.string ⟨nm.toArray⟩, .int .i64 (a : Int)]) (by simp [Act.eval]) hrow2 _ (by simp [Act.eval]) (D.length - k) (cellsZ Qq) (HS3.out 0 _ hB2) HBe.out HBf.out ?_; intro v3 w3 hrow3 hgrow3 hob3; have hB3 : Below wt.heap.size wt w3 := below_row2 hB2 (Nat.le_refl _) hgrow3 hv2; have hv3 : ∀ b, ob v3 = some b → wt.heap.size ≤ b := fun b hb => ob_new2 hob3 hB2.size hv2 b hb) | fail)
          all_goals go_wp2
          all_goals go_ret
          all_goals
            refine ⟨v3, rfl, ?_, fun b hb => Nat.le_trans HBT.out.size (hv3 b hb), HBT.out.trans (hB3.mono HBT.out.size)⟩
            rw [show k + 1 + (D.length - k) = D.length + 1 by omega] at hrow3
            exact HFIN.out _ _ hrow3
        · skip
          have hck : ¬ cap = k := by omega
          have HS1 := Lib.hid (show ∀ W', Below wt.heap.size wt W' → Src Tryz.prog 2 71 (.slice (some ⟨g, 0, none⟩) k cap) k (cellsZ Pp) W' from fun W' hb => HSA.out W' (HBT2.out.trans (hb.mono HBT2.out.size)))
          have HS3 := Lib.hid (show ∀ W', Below wt.heap.size wt W' → Src Tryz.prog 2 71 (.slice (some ⟨g, k * 2, none⟩) (D.length - k) (cap - k)) (D.length - k) (cellsZ Qq) W' from fun W' hb => HSB.out W' (HBT2.out.trans (hb.mono HBT2.out.size)))
          have HBa := Lib.hid (show 0 + k ≤ maxLen by unfold maxLen; omega)
          have HBb := Lib.hid (show (0 + k) * 24 ≤ 140737488355328 by omega)
          have HBc := Lib.hid (show k + 1 ≤ maxLen by unfold maxLen; omega)
          have HBd := Lib.hid (show (k + 1) * 24 ≤ 140737488355328 by omega)
          have HBe := Lib.hid (show k + 1 + (D.length - k) ≤ maxLen by unfold maxLen; omega)
          have HBf := Lib.hid (show (k + 1 + (D.length - k)) * 24 ≤ 140737488355328 by omega)
          go_region_law (first | (refine step_append_row _ rfl (.const (.slice none 0 0)) (.tmp 28) 71 71 rfl 98 i0 _ 2 24 Tryz.underlying71 hi hz0 hzs hzb rfl (.slice none 0 0) 0 [] rfl (row_nil _ _ _) _ (by simp [Act.eval, Act.put]) (k) (cellsZ Pp) (HS1.out _ ((Below.refl _ _).drew)) HBa.out HBb.out ?_; intro v1 w1 hrow1 hgrow1 hob1; have hB1 : Below wt.heap.size wt w1 := below_row2 ((Below.refl _ _).drew) (Nat.le_refl _) hgrow1 (fun b hb => noneZ hb); have hv1 : ∀ b, ob v1 = some b → wt.heap.size ≤ b := fun b hb => ob_new2 hob1 (Nat.le_refl _) (fun b hb => noneZ hb) b hb; rw [Nat.zero_add, List.nil_append] at hrow1) | (refine step_append_row _ rfl (.const (.slice none 0 0)) (.tmp 28) 71 71 rfl 98 i0 _ 2 24 Tryz.underlying71 hi hz0 hzs hzb rfl (.slice none 0 0) 0 [] rfl (row_nil _ _ _) _ (by simp [Act.eval]) (k) (cellsZ Pp) (HS1.out _ (((Below.refl _ _).drew).alloc (Nat.le_refl _) _)) HBa.out HBb.out ?_; intro v1 w1 hrow1 hgrow1 hob1; have hB1 : Below wt.heap.size wt w1 := below_row2 (((Below.refl _ _).drew).alloc (Nat.le_refl _) _) (Nat.le_refl _) hgrow1 (fun b hb => noneZ hb); have hv1 : ∀ b, ob v1 = some b → wt.heap.size ≤ b := fun b hb => ob_new2 hob1 (by simp) (fun b hb => noneZ hb) b hb; rw [Nat.zero_add, List.nil_append] at hrow1; have hsx := (hgrow1.block wt.heap.size (by simp) (fun e => noneZ e.symm)).trans (blockZ _ _ (by simp))) | (refine step_append_row _ rfl (.tmp 29) (.tmp 33) 71 71 rfl 98 i0 _ 2 24 Tryz.underlying71 hi hz0 hzs hzb rfl v1 (k) (cellsZ Pp) (by simp [Act.eval]) (rowZ_below hrow1 ((Below.refl _ _).alloc (Nat.le_refl _) _)) _ (by simp [Act.eval]) 1 [.string ⟨nm.toArray⟩, .int .i64 (a : Int)] (srcZ_new (nm, a) _) HBc.out HBd.out ?_; intro v2 w2 hrow2 hgrow2 hob2; have hB2 : Below wt.heap.size wt w2 := below_row2 (hB1.alloc hB1.size _) (Nat.le_refl _) hgrow2 hv1; have hv2 : ∀ b, ob v2 = some b → wt.heap.size ≤ b := fun b hb => ob_new2 hob2 (by have := hB1.size; simp; omega) hv1 b hb) | (refine step_append_row _ rfl (.tmp 29) (.tmp 33) 71 71 rfl 98 i0 _ 2 24 Tryz.underlying71 hi hz0 hzs hzb rfl v1 (k) (cellsZ Pp) (by simp [Act.eval]) hrow1 _ (by simp [Act.eval]) 1 [.string ⟨nm.toArray⟩, .int .i64 (a : Int)] (srcZ_at (nm, a) hsx) HBc.out HBd.out ?_; intro v2 w2 hrow2 hgrow2 hob2; have hB2 : Below wt.heap.size wt w2 := below_row2 hB1 (Nat.le_refl _) hgrow2 hv1; have hv2 : ∀ b, ob v2 = some b → wt.heap.size ≤ b := fun b hb => ob_new2 hob2 hB1.size hv1 b hb) | (refine step_append_row _ rfl (.tmp 34) (.tmp 37) 71 71 rfl 98 i0 _ 2 24 Tryz.underlying71 hi hz0 hzs hzb rfl v2 (k + 1) (cellsZ Pp ++ [.string ⟨nm.toArray⟩, .int .i64 (a : Int)]) (by simp [Act.eval]) hrow2 _ (by simp [Act.eval]) (D.length - k) (cellsZ Qq) (HS3.out _ hB2) HBe.out HBf.out ?_; intro v3 w3 hrow3 hgrow3 hob3; have hB3 : Below wt.heap.size wt w3 := below_row2 hB2 (Nat.le_refl _) hgrow3 hv2; have hv3 : ∀ b, ob v3 = some b → wt.heap.size ≤ b := fun b hb => ob_new2 hob3 hB2.size hv2 b hb) | fail)
          all_goals go_wp2
          all_goals go_ret
          all_goals
            refine ⟨v3, rfl, ?_, fun b hb => Nat.le_trans HBT.out.size (hv3 b hb), HBT.out.trans (hB3.mono HBT.out.size)⟩
            rw [show k + 1 + (D.length - k) = D.length + 1 by omega] at hrow3
            exact HFIN.out _ _ hrow3
end Go.Proofs.YtfndlfnlepndmaaGreat
