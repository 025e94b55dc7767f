/- skip's first, Len, Get, From, All. -/
import Derived.Test.YthaalhigmihijabGreatY4
import Derived.Laws.Cover1
namespace Go.Proofs.YthaalhigmihijabGreat
open Go.RowKit

section
variable {p c : Nat} {ns P Q : List Nd} {w : World}
/-- What follows the last one ahead of a place. -/
theorem Lst.last (h : Lst p c ns w) (he : ns = P ++ Q) {i : Nat} {m : Nd} (hm : IsLast i (hd p :: P) m) (hi : i < 8) : w.cell? ⟨m.a, 4 + i, none⟩ = some (fol i Q) ∧ m ∈ hd p :: ns ∧ m.a < w.heap.size := by
  obtain ⟨L1, L2, h1, h2, h3⟩ := hm
  have hall : hd p :: ns = L1 ++ m :: (L2 ++ Q) := by rw [he, ← List.cons_append, h1]; simp
  have hn := h.chain L1 m (L2 ++ Q) hall
  have := hn.nxt i hi
  rw [if_pos h2, fol_skip h3] at this
  exact ⟨this, by rw [hall]; simp, hn.lt⟩
end
def headP : List Nd → Value
  | [] => .pointer none
  | x :: _ => pN x
theorem fol0 {Q : List Nd} (h : ∀ n ∈ Q, 1 ≤ n.l) : fol 0 Q = headP Q := by
  cases Q with
  | nil => rfl
  | cons x r =>
    have := h x (by simp)
    exact if_pos (by omega)
set_option maxHeartbeats 1000000 in
set_option maxRecDepth 100000 in
theorem first_any {p c : Nat} {ns P Q : List Nd} {k : ByteArray} {s : Int} (n : Int) (v : ByteArray) {w : World} (h : Lst p c ns w) (hr : Right ns) (hc : Cut k s ns P Q) :
    Calls Tryz.prog 107 #[.pointer (some ⟨p, 0, none⟩), ev k s n v] w fun e w' => e = .returned (fol 0 Q) ∧ Below w.heap.size w w' := by
  have hW : Below w.heap.size w (w.alloc (.cells #[.string k, .int .u64 s, .int .i64 n, .string v] 34)) := (Below.refl _ _).alloc (Nat.le_refl _) _
  have C := Lib.hid (ahead_any n v (h.below hW) hr hc)
  have HH := Lib.hid (h.below hW)
  have HC := Lib.hid hc
  have HW := Lib.hid hW
  clear h hr hc hW
  unfold ev at C ⊢
  go_enter Tryz.func107, Tryz.ntmps107
  go_wp2_with fail
  (with_reducible refine C.out.mono ?_)
  rintro e w1 ⟨g, rfl, hg, hb⟩
  obtain ⟨m, e0, hm⟩ := hg 0 (by omega)
  obtain ⟨c1, -, -⟩ := (HH.out.below hb).last HC.out.all hm (by omega)
  have c2 : w1.cell? ⟨m.a, 4, none⟩ = some (fol 0 Q) := c1
  have HBB := Lib.hid (HW.out.trans (hb.mono HW.out.size))
  unfold pN at e0
  clear c1 hm hg hb
  rw [e0]
  clear e0
  generalize g 1 = g1
  generalize g 2 = g2
  generalize g 3 = g3
  generalize g 4 = g4
  generalize g 5 = g5
  generalize g 6 = g6
  generalize g 7 = g7
  have hix : ∀ W : World, (Instr.index 36 (.agg #[.pointer (some ⟨m.a, 0, none⟩), g1, g2, g3, g4, g5, g6, g7]) (.int .i64 0)).run Tryz.prog W = .ok (.pointer (some ⟨m.a, 0, none⟩)) W := fun _ => by kernel_rfl
  go_wp2
  go_ret
  exact ⟨rfl, HBB.out⟩
theorem len_any {p c : Nat} {ns : List Nd} {w : World} (h : Lst p c ns w) : Calls Tryz.prog 36 #[.pointer (some ⟨p, 0, none⟩)] w fun e w' => e = .returned (.int .i64 (c : Int)) ∧ w = w' := by
  have c0 := h.cnt
  clear h
  go_enter Tryz.func36, Tryz.ntmps36
  go_wp2
  go_ret
  exact ⟨rfl, rfl⟩
theorem str_eq {a b : ByteArray} (h : (a.toList == b.toList) = true) : a = b := by
  rw [ByteArray.toList_eq, ByteArray.toList_eq] at h
  exact bytes_ext (by simpa using h)
theorem str_neq {a b : ByteArray} (h : (a.toList == b.toList) = false) : a ≠ b := by
  rintro rfl
  simp at h
/-- What Get tells of those that aren't ahead of the place. -/
def getR (key : ByteArray) : List Nd → Option Ent
  | [] => none
  | x :: _ => if x.e.k = key then some x.e else none
def getV (o : Option Ent) : Value := .tuple #[(o.getD Ent.zero).val, .bool o.isSome]
theorem getR_yes {x : Nd} {r : List Nd} {k : ByteArray} (h : x.e.k = k) : getR k (x :: r) = some x.e := if_pos h
theorem getR_no {x : Nd} {r : List Nd} {k : ByteArray} (h : ¬ x.e.k = k) : getR k (x :: r) = none := if_neg h
set_option maxHeartbeats 2000000 in
set_option maxRecDepth 100000 in
theorem get_any {p c : Nat} {ns P Q : List Nd} {k : ByteArray} {s : Int} {w : World} (h : Lst p c ns w) (hr : Right ns) (hc : Cut k s ns P Q) :
    Calls Tryz.prog 32 #[.pointer (some ⟨p, 0, none⟩), .string k, .int .u64 s] w fun e w' => e = .returned (getV (getR k Q)) ∧ Below w.heap.size w w' := by
  obtain ⟨W, hW⟩ : ∃ W, w.alloc (.cells #[.string ⟨#[]⟩, .int .u64 0, .int .i64 0, .string ⟨#[]⟩] 34) = W := ⟨_, rfl⟩
  have hB : Below w.heap.size w W := by rw [← hW]; exact (Below.refl _ _).alloc (Nat.le_refl _) _
  have hx : Boxe w.heap.size ⟨#[]⟩ 0 0 ⟨#[]⟩ W := by rw [← hW]; exact new_block _ _ rfl
  have C := Lib.hid (first_any 0 ⟨#[]⟩ (h.below hB) hr hc)
  have HB := Lib.hid hB
  have HX := Lib.hid hx
  have HQL : ∀ n ∈ Q, 1 ≤ n.l := fun n hn => hr.lev n (by rw [hc.all]; simp [hn])
  rw [fol0 HQL] at C
  unfold ev at C
  cases Q with
  | nil =>
    clear h hr hc HQL hB hx
    go_enter Tryz.func32, Tryz.ntmps32
    go_wp2_with fail
    (with_reducible refine C.out.mono ?_)
    rintro e w1 ⟨rfl, hb⟩
    have hx1 := HX.out.below hb
    have d0 := hx1.c0
    have d1 := hx1.c1
    have d2 := hx1.c2
    have d3 := hx1.c3
    have t0 := hx1.f 0
    have t1 := hx1.f 1
    have t2 := hx1.f 2
    have t3 := hx1.f 3
    have HBB := Lib.hid (HB.out.trans (hb.mono HB.out.size))
    clear hx1 hb
    unfold headP
    go_wp2
    refine bodyPost_ret (v := getV none) (by simp [results, Tryz.results32, go_sem, d0, d1, d2, d3, getV, Ent.zero, Ent.val, ev]) rfl ?_
    exact ⟨rfl, (((HBB.out.setCell (Nat.le_refl _) _).setCell (Nat.le_refl _) _).setCell (Nat.le_refl _) _).setCell (Nat.le_refl _) _⟩
  | cons x r =>
    have hxx : x ∈ ns := by rw [hc.all]; simp
    have hfit := hr.fit x hxx
    have hnode : ∀ w', Below W.heap.size W w' → ∃ r, NodeAt w' x r := fun w' hb => ((h.below hB).below hb).node (by simp [hxx])
    have HND := Lib.hid hnode
    have CF := Lib.hid (fun W => fresh_any x.e.k x.e.s x.e.n x.e.v W (by have := hfit.1; omega) (by have := hfit.2.1; omega))
    unfold ev at CF
    clear h hr hc HQL hB hx hnode hxx hfit
    by_cases he : x.e.k = k
    · have hee : (x.e.k.toList == k.toList) = true := by rw [he]; simp
      go_enter Tryz.func32, Tryz.ntmps32
      go_wp2_with fail
      (with_reducible refine C.out.mono ?_)
      rintro e w1 ⟨rfl, hb⟩
      have hx1 := HX.out.below hb
      obtain ⟨r', hn⟩ := HND.out w1 hb
      have c0 := hn.c0
      have c1 := hn.c1
      have c2 := hn.c2
      have c3 := hn.c3
      have HBB := Lib.hid (HB.out.trans (hb.mono HB.out.size))
      have HX1 := Lib.hid hx1
      have HE := Lib.hid he
      clear hx1 hb hn he
      unfold headP pN
      go_wp2_with (first | (go_at_call 108; (with_reducible refine (CF.out _).mono ?_); rintro e w2 ⟨rfl, hb2⟩; have hx2 := HX1.out.below hb2; have d0 := hx2.c0; have d1 := hx2.c1; have d2 := hx2.c2; have d3 := hx2.c3; have t0 := hx2.f 0; have t1 := hx2.f 1; have t2 := hx2.f 2; have t3 := hx2.f 3) | fail)
      refine bodyPost_ret (v := getV (some x.e)) (by simp [results, Tryz.results32, go_sem, d0, d1, d2, d3, getV, Ent.val, ev]) rfl ?_
      have hB2 := HBB.out.trans (hb2.mono HBB.out.size)
      refine ⟨?_, (((hB2.setCell (Nat.le_refl _) _).setCell (Nat.le_refl _) _).setCell (Nat.le_refl _) _).setCell (Nat.le_refl _) _⟩
      rw [getR_yes HE.out]
    · have hee : (x.e.k.toList == k.toList) = false := by
        cases hq : (x.e.k.toList == k.toList) with
        | false => rfl
        | true => exact absurd (str_eq hq) he
      go_enter Tryz.func32, Tryz.ntmps32
      go_wp2_with fail
      (with_reducible refine C.out.mono ?_)
      rintro e w1 ⟨rfl, hb⟩
      have hx1 := HX.out.below hb
      obtain ⟨r', hn⟩ := HND.out w1 hb
      have c0 := hn.c0
      have d0 := hx1.c0
      have d1 := hx1.c1
      have d2 := hx1.c2
      have d3 := hx1.c3
      have t0 := hx1.f 0
      have t1 := hx1.f 1
      have t2 := hx1.f 2
      have t3 := hx1.f 3
      have HBB := Lib.hid (HB.out.trans (hb.mono HB.out.size))
      have HE := Lib.hid he
      clear hx1 hb hn he
      unfold headP pN
      go_wp2
      refine bodyPost_ret (v := getV none) (by simp [results, Tryz.results32, go_sem, d0, d1, d2, d3, getV, Ent.zero, Ent.val, ev]) rfl ?_
      refine ⟨?_, (((HBB.out.setCell (Nat.le_refl _) _).setCell (Nat.le_refl _) _).setCell (Nat.le_refl _) _).setCell (Nat.le_refl _) _⟩
      rw [getR_no HE.out]
theorem cmp_none (k : ByteArray) (s : Int) (h : s ≤ 18446744073709551615) : cmpE k s ⟨#[]⟩ 18446744073709551615 ≠ -1 := by
  unfold cmpE
  cases hk : k.data.toList with
  | nil =>
    rw [if_pos (by rfl)]
    unfold cmpU
    split
    · omega
    · split <;> omega
  | cons a l =>
    have : Lib.compareBytes (a :: l) (⟨#[]⟩ : ByteArray).data.toList = 1 := rfl
    rw [this, if_neg (by decide)]
    decide
theorem infoE5 : (Tryz.prog.info? 34).map (fun i => (i.zero, i.size, i.bytes)) = some (some (.agg #[.string ⟨#[]⟩, .int .u64 0, .int .i64 0, .string ⟨#[]⟩]), 4, 48) := by kernel_rfl
def cellsE (l : List Ent) : List Value := l.flatMap Ent.cells
theorem cellsE_append (a b : List Ent) : cellsE (a ++ b) = cellsE a ++ cellsE b := by simp [cellsE]
theorem row_below {w w' : World} {e : TypeId} {size : Nat} {v : Value} {n : Nat} {xs : List Value} (h : Row w e size v n xs) (hb : Below w.heap.size w w') : Row w' e size v n xs := h.kept fun k hk => hb.block k (h.lt k hk)
def entsOf (ns : List Nd) : List Ent := ns.map Nd.e
def leftOf (L : List Nat) : Value → Nat
  | .pointer (some a) => L.length - L.idxOf a.block
  | _ => 0
/-- What stands below an end (no end, if it is empty). -/
def upto (tk : ByteArray) (Q : List Nd) : List Nd := if tk.size = 0 then Q else Q.takeWhile fun x => Op.bytesLess x.e.k.toList tk.toList
theorem upto_nil (tk : ByteArray) : upto tk [] = [] := by unfold upto; split <;> rfl
theorem upto_all {tk : ByteArray} (h : tk.size = 0) (Q : List Nd) : upto tk Q = Q := if_pos h
theorem upto_yes {tk : ByteArray} {x : Nd} {r : List Nd} (h : tk.size = 0 ∨ Op.bytesLess x.e.k.toList tk.toList = true) : upto tk (x :: r) = x :: upto tk r := by
  unfold upto
  by_cases h0 : tk.size = 0
  · rw [if_pos h0, if_pos h0]
  · rw [if_neg h0, if_neg h0, List.takeWhile_cons, h.resolve_left h0]
    rfl
theorem upto_no {tk : ByteArray} {x : Nd} {r : List Nd} (h0 : tk.size ≠ 0) (h : Op.bytesLess x.e.k.toList tk.toList = false) : upto tk (x :: r) = [] := by
  unfold upto
  rw [if_neg h0, List.takeWhile_cons, h]
  rfl
theorem to_no {s : ByteArray} (h : s.size = 0) : s.toList.isEmpty = true := by
  rw [ByteArray.toList_eq]
  have h2 : s.data.toList.length = s.size := by rw [Array.length_toList]; rfl
  rw [h] at h2
  rw [List.length_eq_zero_iff.mp h2]
  rfl
theorem to_ne {s : ByteArray} (h : s.size ≠ 0) : s.toList.isEmpty = false := by
  rw [ByteArray.toList_eq]
  have h2 : s.data.toList.length = s.size := by rw [Array.length_toList]; rfl
  cases hq : s.data.toList with
  | nil =>
    rw [hq] at h2
    exact absurd h2.symm h
  | cons a l => rfl
set_option maxHeartbeats 4000000 in
set_option maxRecDepth 100000 in
theorem between_any {p c : Nat} {ns P Q : List Nd} {k : ByteArray} (tk : ByteArray) {w : World} (h : Lst p c ns w) (hr : Right ns) (hc : Cut k 18446744073709551615 ns P Q) (hl : ns.length ≤ 1000000) :
    Calls Tryz.prog 33 #[.pointer (some ⟨p, 0, none⟩), .string k, .string tk] w fun e w' => ∃ v, e = .returned v ∧ Row w' 34 4 v (entsOf (upto tk Q)).length (cellsE (entsOf (upto tk Q))) ∧ (∀ b, ob v = some b → w.heap.size ≤ b) ∧ Below w.heap.size w w' := by
  have C := Lib.hid (first_any 0 ⟨#[]⟩ h hr hc)
  have HQL : ∀ n ∈ Q, 1 ≤ n.l := fun n hn => hr.lev n (by rw [hc.all]; simp [hn])
  rw [fol0 HQL] at C
  unfold ev at C
  obtain ⟨i0, hi, hz0, hzs, hzb⟩ := info_parts infoE5
  have HH := Lib.hid h
  have HR := Lib.hid hr
  have HC := Lib.hid hc
  have HQ := Lib.hid HQL
  clear h hr hc HQL
  go_enter Tryz.func33, Tryz.ntmps33
  go_wp2_with fail
  (with_reducible refine C.out.mono ?_)
  rintro e W1 ⟨rfl, b1⟩
  have HB1 := Lib.hid b1
  clear b1
  obtain ⟨F0, hF0⟩ : ∃ F, F = headP Q := ⟨_, rfl⟩
  rw [← hF0]
  have HF := Lib.hid hF0
  clear hF0
  go_wp2_with fail
  go_loopw [7, 8] (fun ov nv wr => ∃ (D E : List Nd) (V : Value), V = ov ∧ nv = headP E ∧ (Q = D ++ E ∧ upto tk Q = D ++ upto tk E) ∧ Row wr 34 4 V (entsOf D).length (cellsE (entsOf D)) ∧ (∀ b, ob V = some b → W1.heap.size ≤ b) ∧ Below W1.heap.size W1 wr) (fun _ nv _ => leftOf (foot p ns) nv)
  case atStart => exact ⟨[], Q, _, rfl, HF.out, ⟨rfl, rfl⟩, row_nil _ _ _, fun b hb => by simp [ob] at hb, Below.refl _ _⟩
  case round =>
    obtain ⟨D, E, V, rfl, rfl, ⟨hde, hup⟩, hrow, hob, hbl⟩ := hrel
    have HUP := Lib.hid hup
    have HRW := Lib.hid hrow
    have HOB := Lib.hid hob
    have HBL := Lib.hid hbl
    have HDE := Lib.hid hde
    clear hrow hob hbl hde hup
    cases E with
    | nil =>
      rw [show headP [] = .pointer none from rfl]
      go_wp2
      go_ret
      have e0 : upto tk Q = D := by rw [HUP.out, upto_nil]; simp
      refine ⟨V, rfl, by rw [e0]; exact HRW.out, fun b hb => Nat.le_trans HB1.out.size (HOB.out b hb), HB1.out.trans (HBL.out.mono HB1.out.size)⟩
    | cons x r =>
      by_cases hgo : tk.size = 0 ∨ Op.bytesLess x.e.k.toList tk.toList = true
      case neg =>
        have hts : tk.size ≠ 0 := fun h => hgo (.inl h)
        have hbl2 : Op.bytesLess x.e.k.toList tk.toList = false := by
          cases hq : Op.bytesLess x.e.k.toList tk.toList with
          | false => rfl
          | true => exact absurd (.inr hq) hgo
        have hne : tk.toList.isEmpty = false := to_ne hts
        have e0 : upto tk Q = D := by rw [HUP.out, upto_no hts hbl2]; simp
        have HE0 := Lib.hid e0
        have hbw : Below w.heap.size w wr := HB1.out.trans (HBL.out.mono HB1.out.size)
        have hn := (HH.out.below hbw).chain (hd p :: P ++ D) x r (by rw [HC.out.all, HDE.out]; simp)
        have c0 := hn.c0
        have HBW := Lib.hid hbw
        clear hgo hts e0 hn hbw
        rw [show headP (x :: r) = .pointer (some ⟨x.a, 0, none⟩) from rfl]
        go_wp2
        go_ret
        refine ⟨V, rfl, by rw [HE0.out]; exact HRW.out, fun b hb => Nat.le_trans HB1.out.size (HOB.out b hb), HBW.out⟩
      have HYES := Lib.hid (upto_yes (r := r) hgo)
      have hgo2 : tk.toList.isEmpty = true ∨ (tk.toList.isEmpty = false ∧ Op.bytesLess x.e.k.toList tk.toList = true) := by
        by_cases hz : tk.size = 0
        · exact .inl (to_no hz)
        · exact .inr ⟨to_ne hz, hgo.resolve_left hz⟩
      clear hgo
      have hbw : Below w.heap.size w wr := HB1.out.trans (HBL.out.mono HB1.out.size)
      have hls := HH.out.below hbw
      have hall : hd p :: ns = (hd p :: P ++ D) ++ x :: r := by rw [HC.out.all, HDE.out]; simp
      have hn := hls.chain _ x r hall
      have hxn : x ∈ ns := by rw [HC.out.all, HDE.out]; simp
      have hfit := HR.out.fit x hxn
      have c0 := hn.c0
      have c1 := hn.c1
      have c2 := hn.c2
      have c3 := hn.c3
      have HNX := Lib.hid (show ∀ w', Below wr.heap.size wr w' → w'.cell? ⟨x.a, 4, none⟩ = some (headP r) from fun w' hb => by
        have := ((hn.kept (hb.block _ hn.lt)).nxt 0 (by omega))
        rw [if_pos (by have := HR.out.lev x hxn; omega), fol0 (fun y hy => HR.out.lev y (by rw [HC.out.all, HDE.out]; simp [hy]))] at this
        exact this)
      have HLF := Lib.hid (show leftOf (foot p ns) (headP r) < leftOf (foot p ns) (.pointer (some ⟨x.a, 0, none⟩)) by
        have e1 : (foot p ns).idxOf x.a = (hd p :: P ++ D).length := idx_at hall hls.nodup
        have hln : (foot p ns).length = (hd p :: P ++ D).length + (r.length + 1) := by
          show ((hd p :: ns).map Nd.a).length = _
          rw [hall]
          simp
          omega
        cases r with
        | nil =>
          show 0 < (foot p ns).length - (foot p ns).idxOf x.a
          rw [e1]
          omega
        | cons y r =>
          have e2 : (foot p ns).idxOf y.a = (hd p :: P ++ D ++ [x]).length := idx_at (show hd p :: ns = (hd p :: P ++ D ++ [x]) ++ y :: r by rw [hall]; simp) hls.nodup
          show (foot p ns).length - (foot p ns).idxOf y.a < (foot p ns).length - (foot p ns).idxOf x.a
          rw [e1, e2]
          rw [List.length_append (bs := [x])]
          simp only [List.length_cons, List.length_nil] at *
          omega)
      have CF := Lib.hid (fun W => fresh_any x.e.k x.e.s x.e.n x.e.v W (by have := hfit.1; omega) (by have := hfit.2.1; omega))
      unfold ev at CF
      have hDl : D.length ≤ 1000000 := by
        have : ns.length = P.length + (D.length + (r.length + 1)) := by rw [HC.out.all, HDE.out]; simp
        omega
      have HBR := Lib.hid (show ∀ (w3 : World) (o2 : Obj), Below wr.heap.size wr w3 → Below wr.heap.size wr (w3.alloc o2) from fun w3 o2 hb => hb.alloc hb.size _)
      have HSrc := Lib.hid (show ∀ w3 : World, Src Tryz.prog 4 29 (.slice (some ⟨w3.heap.size, 0, none⟩) 1 1) 1 [.string x.e.k, .int .u64 x.e.s, .int .i64 x.e.n, .string x.e.v] (w3.alloc (.cells #[.string x.e.k, .int .u64 x.e.s, .int .i64 x.e.n, .string x.e.v] 34)) from fun w3 => Src.ofSlice (P := Tryz.prog) _ (size := 4) Tryz.underlying29 ⟨w3.heap.size, 0, none⟩ 1 1 _ rfl (fun j u hu => by
        match j, hu with
        | 0, hu => simpa [Addr.add] using hu
        | 1, hu => simpa [Addr.add] using hu
        | 2, hu => simpa [Addr.add] using hu
        | 3, hu => simpa [Addr.add] using hu) (by simp [Value.oneCell']))
      have HBa := Lib.hid (show (entsOf D).length + 1 ≤ maxLen by unfold maxLen entsOf; rw [List.length_map]; omega)
      have HBb := Lib.hid (show ((entsOf D).length + 1) * 48 ≤ 140737488355328 by unfold entsOf; rw [List.length_map]; omega)
      have HND := Lib.hid hn
      have HLS := Lib.hid hls
      have HNW := Lib.hid (show ∀ b, ob V = some b → b ∉ foot p ns from fun b hb hm => by
        have h1 := HOB.out b hb
        have h2 := HH.out.lt b hm
        have h3 := HB1.out.size
        omega)
      have HXM := Lib.hid (show x.a ∈ foot p ns from List.mem_map.2 ⟨x, by simp [hxn], rfl⟩)
      clear hn hls hall hxn hfit hDl hbw
      rw [show headP (x :: r) = .pointer (some ⟨x.a, 0, none⟩) from rfl]
      rcases hgo2 with hemp | ⟨hemp, hless⟩
      all_goals
        go_wp2_with (first
          | (go_at_call 108; (with_reducible refine (CF.out _).mono ?_); rintro e w3 ⟨rfl, hb3⟩)
          | (at_builtin; refine wpList_append_row _ rfl _ _ 29 29 rfl 34 i0 _ 4 48 Tryz.underlying29 hi hz0 hzs hzb rfl V _ _ rfl (row_below HRW.out (HBR.out _ _ hb3)) _ rfl 1 _ (HSrc.out _) HBa.out HBb.out ?_; intro v' w5 hrow5 hgrow5 hob5; have cx : w5.cell? ⟨x.a, 4, none⟩ = some (headP r) := (World.cell?_of_block (hgrow5.block x.a (by have := HND.out.lt; have := (HBR.out _ (.cells #[.string x.e.k, .int .u64 x.e.s, .int .i64 x.e.n, .string x.e.v] 34) hb3).size; omega) (fun e => HNW.out x.a e.symm HXM.out))).trans (HNX.out _ (HBR.out _ _ hb3)))
          | fail)
        have hB4 := HBL.out.trans ((HBR.out _ (.cells #[.string x.e.k, .int .u64 x.e.s, .int .i64 x.e.n, .string x.e.v] 34) hb3).mono HBL.out.size)
        have hB5 : Below W1.heap.size W1 w5 := hB4.trans ((turn_of_grown (F := (ob V).toList) hgrow5 (fun k hk => .inl (by simp [hk]))).below hB4.size (fun k hk => HOB.out k (by simpa using hk)))
        go_roundw
        case rel =>
          refine ⟨D ++ [x], r, v', rfl, rfl, ⟨by rw [HDE.out]; simp, by rw [HUP.out, HYES.out]; simp⟩, ?_, fun b hb => ?_, hB5⟩
          · have e1 : entsOf (D ++ [x]) = entsOf D ++ [x.e] := by simp [entsOf]
            rw [e1, List.length_append, cellsE_append]
            exact hrow5
          · rcases hob5 with e | ⟨e, -⟩
            · exact HOB.out b (by rw [← e]; exact hb)
            · rw [e] at hb
              cases hb
              exact hB4.size
        case measure => exact HLF.out
end Go.Proofs.YthaalhigmihijabGreat
