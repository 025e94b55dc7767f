/- The program: slices.DeleteFunc for block.Seek. -/
import Derived.Test.YtopnbbchiglpoaaZX
namespace Go.Proofs.Ytopnbbchiglpoaa
open Go.RowKit

/-- What stays: those whose key is not below. -/
def keepP (key : ByteArray) (es : List Ent) : List Ent := es.filter (fun x => !lessB x.k key)
theorem keepP_range (key : ByteArray) (es : List Ent) : keepP key es = rangeE key ⟨#[]⟩ es := by
  unfold keepP rangeE
  congr 1
  funext x
  rw [inRange_all]
theorem keepP_take (key : ByteArray) (es : List Ent) (j : Nat) (hj : j < es.length) : keepP key (es.take (j + 1)) = keepP key (es.take j) ++ (if lessB (entAt es j).k key = true then [] else [entAt es j]) := by
  unfold keepP
  rw [List.take_succ_eq_append_getElem hj, List.filter_append, ← entAt_get hj]
  congr 1
  by_cases h : lessB (entAt es j).k key = true
  · rw [if_pos h]; simp [h]
  · rw [if_neg h]; simp [h]
/-- What a row holds while DeleteFunc goes through it. -/
structure KI (key : ByteArray) (es dk : List Ent) (i j : Nat) : Prop where
  len : dk.length = es.length
  lt : i < j
  le : j ≤ es.length
  low : dk.take i = keepP key (es.take j)
  high : dk.drop j = es.drop j
section
variable {key : ByteArray} {es dk : List Ent} {i j : Nat}
theorem KI.start (hj : j < es.length) (hp : lessB (entAt es j).k key = true) (hno : ∀ x ∈ es.take j, lessB x.k key = false) : KI key es es j (j + 1) := by
  refine ⟨rfl, by omega, hj, ?_, rfl⟩
  rw [keepP_take key es j hj, if_pos hp, List.append_nil]
  unfold keepP
  rw [List.filter_eq_self.2 (fun x hx => by rw [hno x hx]; rfl)]
theorem KI.skip (h : KI key es dk i j) (hj : j < es.length) (hp : lessB (entAt es j).k key = true) : KI key es dk i (j + 1) := by
  refine ⟨h.len, by have := h.lt; omega, hj, ?_, ?_⟩
  · rw [keepP_take key es j hj, if_pos hp, List.append_nil]; exact h.low
  · rw [← List.drop_drop, h.high, List.drop_drop]
theorem KI.keep (h : KI key es dk i j) (hj : j < es.length) (hp : lessB (entAt es j).k key = false) : KI key es (dk.take i ++ entAt es j :: dk.drop (i + 1)) (i + 1) (j + 1) := by
  have hl := h.len
  have hlt := h.lt
  have hti : (dk.take i).length = i := by rw [List.length_take]; omega
  refine ⟨?_, by omega, hj, ?_, ?_⟩
  · rw [List.length_append, hti, List.length_cons, List.length_drop]; omega
  · rw [keepP_take key es j hj, if_neg (by rw [hp]; simp), ← h.low]
    rw [List.take_append, hti, List.take_of_length_le (by omega), show i + 1 - i = 1 by omega]
    simp
  · rw [List.drop_append, hti, List.drop_of_length_le (by omega), List.nil_append, show j + 1 - i = (j - i) + 1 by omega, List.drop_succ_cons, List.drop_drop, show i + 1 + (j - i) = j + 1 by omega, ← List.drop_drop, h.high, List.drop_drop]
theorem KI.at (h : KI key es dk i j) : entAt dk j = entAt es j := by
  have h1 := congrArg (fun l => l[0]?) h.high
  simp only [List.getElem?_drop, Nat.add_zero] at h1
  unfold entAt
  rw [h1]
theorem KI.count (h : KI key es dk i j) : i = (keepP key (es.take j)).length := by
  rw [← h.low, List.length_take]
  have := h.len
  have := h.lt
  have := h.le
  omega
end
theorem cellsE_take (l : List Ent) (i : Nat) (h : i ≤ l.length) : (cellsE l).take (i * 4) = cellsE (l.take i) := by
  conv => lhs; rw [← List.take_append_drop i l, cellsE_append]
  refine List.take_left' ?_
  rw [cellsE_length, List.length_take]
  omega
theorem cellsE_drop (l : List Ent) (i : Nat) (h : i ≤ l.length) : (cellsE l).drop (i * 4) = cellsE (l.drop i) := by
  conv => lhs; rw [← List.take_append_drop i l, cellsE_append]
  refine List.drop_left' ?_
  rw [cellsE_length, List.length_take]
  omega
theorem mid_take {α : Type} (C xs : List α) (a N : Nat) (h1 : a + xs.length ≤ N) (h2 : N ≤ C.length) : (C.take a ++ xs ++ C.drop (a + xs.length)).take N = (C.take N).take a ++ xs ++ (C.take N).drop (a + xs.length) := by
  rw [List.append_assoc, List.append_assoc, List.take_append, List.length_take, Nat.min_eq_left (show a ≤ C.length by omega), List.take_take, List.take_take, Nat.min_eq_right (show a ≤ N by omega), Nat.min_eq_left (show a ≤ N by omega), List.take_append]
  rw [List.take_of_length_le (show xs.length ≤ N - a by omega), List.drop_take, show N - a - xs.length = N - (a + xs.length) by omega]
/-- A version put into a row. -/
theorem row_put {W : World} {g cap : Nat} {dk : List Ent} (hr : Row W 34 4 (.slice (some ⟨g, 0, none⟩) dk.length (cap + 1)) dk.length (cellsE dk)) (i : Nat) (hi : i < dk.length) (x : Ent) :
    Row (W.setCells g (i * 4) x.cells) 34 4 (.slice (some ⟨g, 0, none⟩) (dk.take i ++ x :: dk.drop (i + 1)).length (cap + 1)) (dk.take i ++ x :: dk.drop (i + 1)).length (cellsE (dk.take i ++ x :: dk.drop (i + 1))) := by
  have hl : (dk.take i ++ x :: dk.drop (i + 1)).length = dk.length := by rw [List.length_append, List.length_take, List.length_cons, List.length_drop]; omega
  have hxl : x.cells.length = 4 := rfl
  refine ⟨cellsE_length _, ?_⟩
  rcases hr.2 with ⟨h0, -⟩ | ⟨g', cap', cur, e, hg, h1, h2, h3, h4⟩
  · omega
  · cases e
    have hcs : i * 4 + x.cells.length ≤ cur.size := by rw [hxl, h3]; omega
    have hset := setCells_heap g x.cells (i * 4) W cur 34 hg hcs
    refine .inr ⟨g, cap, _, rfl, hset, by rw [hl]; exact h1, h2, ?_, ?_⟩
    · simp
      omega
    · rw [hl, List.toList_toArray, mid_take cur.toList x.cells (i * 4) (dk.length * 4) (by rw [hxl]; omega) (by have : cur.toList.length = cur.size := Array.length_toList; omega), h4, cellsE_take dk i (by omega), hxl, show i * 4 + 4 = (i + 1) * 4 by omega, cellsE_drop dk (i + 1) (by omega), cellsE_append]
      rw [show cellsE (x :: dk.drop (i + 1)) = x.cells ++ cellsE (dk.drop (i + 1)) by simp [cellsE]]
      simp
/-- A row cut, what stands behind it overwritten. -/
theorem row_wipe {W : World} {g cap : Nat} {dk : List Ent} (hr : Row W 34 4 (.slice (some ⟨g, 0, none⟩) dk.length (cap + 1)) dk.length (cellsE dk)) (i : Nat) (hi : i < dk.length) (vs : List Value) (hv : vs.length = (dk.length - i) * 4) :
    Row (W.setCells g (i * 4) vs) 34 4 (.slice (some ⟨g, 0, none⟩) (dk.take i).length (cap + 1)) (dk.take i).length (cellsE (dk.take i)) := by
  have hl : (dk.take i).length = i := by rw [List.length_take]; omega
  refine ⟨cellsE_length _, ?_⟩
  rcases hr.2 with ⟨h0, -⟩ | ⟨g', cap', cur, e, hg, h1, h2, h3, h4⟩
  · omega
  · cases e
    have hcs : i * 4 + vs.length ≤ cur.size := by rw [hv, h3]; omega
    have hset := setCells_heap g vs (i * 4) W cur 34 hg hcs
    refine .inr ⟨g, cap, _, rfl, hset, by rw [hl]; omega, h2, ?_, ?_⟩
    · simp
      omega
    · have hcl : cur.toList.length = (cap + 1) * 4 := by rw [Array.length_toList, h3]
      rw [hl, List.toList_toArray, List.append_assoc, List.take_left' (by rw [List.length_take]; omega), ← cellsE_take dk i (by omega), ← h4, List.take_take, Nat.min_eq_left (by omega)]
/-- clear of the end of a row of versions. -/
theorem clear_run {W : World} {g cap : Nat} {dk : List Ent} (hr : Row W 34 4 (.slice (some ⟨g, 0, none⟩) dk.length (cap + 1)) dk.length (cellsE dk)) (i : Nat) (hi : i < dk.length) : ∃ vs : List Value, vs.length = (dk.length - i) * 4 ∧
    ∀ ty c, (Builtin.clear_ #[22] ty #[.slice (some ⟨g, i * 4, none⟩) (dk.length - i) c]).run Try.prog W = .ok (.tuple #[]) (W.setCells g (i * 4) vs) := by
  obtain ⟨vs, hvs⟩ : ∃ vs, (Builtin.zeroCells (Value.agg #[.string ⟨#[]⟩, .int .u64 0, .int .i64 0, .string ⟨#[]⟩]).cells (dk.length - i)).toList = vs := ⟨_, rfl⟩
  have hsz : (Value.agg #[.string ⟨#[]⟩, .int .u64 0, .int .i64 0, .string ⟨#[]⟩]).cells.size = 4 := rfl
  have hlen : vs.length = (dk.length - i) * 4 := by rw [← hvs, Array.length_toList, size_zeroCells, hsz]
  have hone : ∀ v ∈ vs, v.oneCell' = true := by
    rw [← hvs]
    intro v hv
    have hv2 : v ∈ Builtin.zeroCells (Value.agg #[.string ⟨#[]⟩, .int .u64 0, .int .i64 0, .string ⟨#[]⟩]).cells (dk.length - i) := by simpa using hv
    unfold Builtin.zeroCells at hv2
    obtain ⟨k, -, rfl⟩ := Array.mem_map.1 hv2
    rw [hsz]
    have : k % 4 = 0 ∨ k % 4 = 1 ∨ k % 4 = 2 ∨ k % 4 = 3 := by omega
    rcases this with h | h | h | h <;> rw [h] <;> rfl
  refine ⟨vs, hlen, fun ty c => ?_⟩
  rcases hr.2 with ⟨h0, -⟩ | ⟨g', cap', cur, e, hg, h1, h2, h3, h4⟩
  · omega
  · cases e
    have hst := run_storeCells_cells (P := Try.prog) g (i * 4) vs 0 W (fun j hj => by
      rw [cell_of_row W g _ cur 34 (0, 0) hg]
      simp
      omega) (fun j hj => by simp [World.frozen?, hg]) hone
    simp only [Nat.add_zero] at hst
    obtain ⟨m, hm⟩ : ∃ m, dk.length - i = m + 1 := ⟨dk.length - i - 1, by omega⟩
    rw [hm] at hvs ⊢
    simp [Builtin.clear_, run_underlying Try.underlying22, hvs, hst]
set_option maxHeartbeats 8000000 in
set_option maxRecDepth 100000 in
/-- slices.DeleteFunc, of versions, with Seek's function. -/
theorem delFunc_some {w : World} (g cap : Nat) (es : List Ent) (hr : Row w 34 4 (.slice (some ⟨g, 0, none⟩) es.length (cap + 1)) es.length (cellsE es)) (hlm : es.length ≤ 100000) (X : Nat) (key : ByteArray) (hk : w.cell? ⟨X, 0, none⟩ = some (.string key)) (hX : X ≠ g) :
    Calls Try.prog 19 #[.slice (some ⟨g, 0, none⟩) es.length (cap + 1), .func (.func 20) #[] #[.pointer (some ⟨X, 0, none⟩)]] w fun e w' => ∃ v', e = .returned v' ∧ Row w' 34 4 v' (keepP key es).length (cellsE (keepP key es)) ∧ ob v' = some g ∧ w.grownBy w' (some g) := by
  obtain ⟨a1, c1, hv1, hE⟩ := row_ents hr
  cases hv1
  have CI := Lib.hid (idxFunc_any (some ⟨g, 0, none⟩) es.length (cap + 1) es hE (by omega) X key hk)
  have hfn : ∀ (args : Array Value) (w : World), (callFunc 20 args).run Try.prog w = .ok (.enter 20 args) w := fun args w => by kernel_rfl
  have hXlt := World.block_lt_of_cell? w _ hk
  have hcap : es.length ≤ cap + 1 := by
    obtain ⟨a2, c2, hv2, h1, -⟩ := hr.le
    cases hv2
    exact h1
  have hglt : g < w.heap.size := hr.lt g rfl
  have HR := Lib.hid hr
  have HK := Lib.hid hk
  clear hE hr hk
  go_enter Try.func19, Try.ntmps19
  go_wp2_with (fail)
  go_at_call 39
  refine CI.out.mono ?_
  rintro _ w1 ⟨r, rfl, hres, b1⟩
  have HB1 := Lib.hid b1
  rcases hres.out with ⟨rfl, hno⟩ | ⟨k0, hk0, rfl, hyes, hno⟩
  · have HKP := Lib.hid (show keepP key es = es by unfold keepP; rw [List.filter_eq_self.2 (fun x hx => by rw [hno x hx]; rfl)])
    clear hres hno CI b1
    go_wp2
    go_ret
    rw [HKP.out]
    exact ⟨_, rfl, row_below HR.out HB1.out, rfl, grownBy_of_below HB1.out _⟩
  · have HKI := Lib.hid (KI.start hk0 hyes hno)
    have hne1 : ((k0 : Int) == -1) = false := beq_eq_false_iff_ne.2 (by omega)
    have HR1 := Lib.hid (row_below HR.out HB1.out)
    have HG1 := Lib.hid (show w.grownBy w1 (some g) from grownBy_of_below HB1.out _)
    have HK1 := Lib.hid (kkB HB1.out HK.out)
    clear hres hno hyes CI b1 HR HB1
    go_wp2
    go_loopw [5, 6] (fun iv jv wr => ∃ (i j : Nat) (dk : List Ent), iv = .int .i64 (i : Int) ∧ jv = .int .i64 (j : Int) ∧ Hid (KI key es dk i j) ∧ Row wr 34 4 (.slice (some ⟨g, 0, none⟩) es.length (cap + 1)) es.length (cellsE dk) ∧ wr.cell? ⟨X, 0, none⟩ = some (.string key) ∧ w.grownBy wr (some g)) (fun _ jv _ => es.length - (intOf jv).toNat)
    case atStart => exact ⟨k0, k0 + 1, es, rfl, by go_num, HKI, HR1.out, HK1.out, HG1.out⟩
    case round =>
      clear HKI HR1 HG1 HK1 hne1
      obtain ⟨i, j, dk, rfl, rfl, HI, hrow, hkey, hgr⟩ := hrel
      have HG := Lib.hid hgr
      have hlen := HI.out.len
      have hij := HI.out.lt
      have hjl := HI.out.le
      rw [← hlen] at hrow
      have HROW := Lib.hid hrow
      have hwl := hrow.lt g rfl
      obtain ⟨a2, c2, hv2, hE⟩ := row_ents hrow
      cases hv2
      have HCE := Lib.hid (show ∀ m, m < dk.length → ∀ k u, (entAt dk m).cells[k]? = some u → wr.cell? ⟨g, m * 4 + k, none⟩ = some u from fun m hm k u hu => by
        rcases hE.2 with h0 | ⟨b, off, e, h1, h2⟩
        · omega
        · cases e
          have := h2 m hm k u (by rw [← entAt_get hm]; exact hu)
          rwa [Nat.zero_add] at this)
      have hfz : ∀ m, wr.frozen? ⟨g, m, none⟩ = false := fun m => by
        rcases hrow.2 with ⟨h0, -⟩ | ⟨g', cap', cur, e, hg, -⟩
        · omega
        · cases e
          simp [World.frozen?, hg]
      rw [hlen] at hE
      by_cases hlt : j < es.length
      · have hltI : (j : Int) < (es.length : Int) := by omega
        have hiI : (i : Int) < (es.length : Int) := by omega
        have HAT := Lib.hid HI.out.at
        obtain ⟨y, hy⟩ : ∃ y, entAt es j = y := ⟨_, rfl⟩
        obtain ⟨z, hz⟩ : ∃ z, entAt dk i = z := ⟨_, rfl⟩
        have hcj := HCE.out j (by omega)
        rw [HAT.out, hy] at hcj
        have hci := HCE.out i (by omega)
        rw [hz] at hci
        have q0 : wr.cell? ⟨g, j * 4, none⟩ = some (.string y.k) := hcj 0 _ rfl
        have q1 : wr.cell? ⟨g, j * 4 + 1, none⟩ = some (.int .u64 y.s) := hcj 1 _ rfl
        have q2 : wr.cell? ⟨g, j * 4 + 2, none⟩ = some (.int .i64 y.n) := hcj 2 _ rfl
        have q3 : wr.cell? ⟨g, j * 4 + 3, none⟩ = some (.string y.v) := hcj 3 _ rfl
        have p0 : wr.cell? ⟨g, i * 4, none⟩ = some (.string z.k) := hci 0 _ rfl
        have p1 : wr.cell? ⟨g, i * 4 + 1, none⟩ = some (.int .u64 z.s) := hci 1 _ rfl
        have p2 : wr.cell? ⟨g, i * 4 + 2, none⟩ = some (.int .i64 z.n) := hci 2 _ rfl
        have p3 : wr.cell? ⟨g, i * 4 + 3, none⟩ = some (.string z.v) := hci 3 _ rfl
        obtain ⟨W, hW⟩ : ∃ W, wr.alloc (.cells #[.string y.k, .int .u64 y.s, .int .i64 y.n, .string y.v] 34) = W := ⟨_, rfl⟩
        have hbW : Below wr.heap.size wr W := by rw [← hW]; exact (Below.refl _ _).alloc (Nat.le_refl _) _
        have HBX := Lib.hid (show Boxe wr.heap.size y.k y.s y.n y.v W by rw [← hW]; exact new_block _ _ rfl)
        have CB := Lib.hid (belowKey_any y X key W (kkB hbW hkey))
        have HKW := Lib.hid (kkB hbW hkey)
        have HBW := Lib.hid hbW
        have HP := Lib.hid (show ∀ w2, Below W.heap.size W w2 → w2.cell? ⟨g, i * 4, none⟩ = some (.string z.k) ∧ w2.cell? ⟨g, i * 4 + 1, none⟩ = some (.int .u64 z.s) ∧ w2.cell? ⟨g, i * 4 + 2, none⟩ = some (.int .i64 z.n) ∧ w2.cell? ⟨g, i * 4 + 3, none⟩ = some (.string z.v) ∧ ∀ m, w2.frozen? ⟨g, m, none⟩ = false from fun w2 h =>
          ⟨kkB (bt7 hbW h) p0, kkB (bt7 hbW h) p1, kkB (bt7 hbW h) p2, kkB (bt7 hbW h) p3, fun m => (frozen_blockB (a := ⟨g, m, none⟩) ((bt7 hbW h).block g hwl)).trans (hfz m)⟩)
        clear hcj hci HCE HAT hE hrow hkey hgr hfz p0 p1 p2 p3 hbW
        go_upto_region 8 with fail
        try rw [hW]
        generalize wr.heap.size = Y at HBX ⊢
        have c0 : W.cell? ⟨Y, 0, none⟩ = some (.string y.k) := HBX.out.c0
        have c1 : W.cell? ⟨Y, 1, none⟩ = some (.int .u64 y.s) := HBX.out.c1
        have c2 : W.cell? ⟨Y, 2, none⟩ = some (.int .i64 y.n) := HBX.out.c2
        have c3 : W.cell? ⟨Y, 3, none⟩ = some (.string y.v) := HBX.out.c3
        clear hW q0 q1 q2 q3
        cases hq : lessB y.k key with
        | true =>
          rw [hq] at CB
          go_wp2_with (go_at_call 20; (with_reducible refine CB.out.mono ?_); rintro _ w2 ⟨rfl, b2⟩)
          go_roundw
          case rel =>
            have hb2 := bt7 HBW.out b2
            refine ⟨i, j + 1, dk, rfl, by go_num, Lib.hid (HI.out.skip hlt (by rw [hy]; exact hq)), ?_, kkB b2 HKW.out, grownBy_trans HG.out (grownBy_of_below hb2 _)⟩
            have := row_below HROW.out hb2
            rw [hlen] at this
            exact this
          case measure => simp [intOf]; omega
        | false =>
          rw [hq] at CB
          go_wp2_with (go_at_call 20; (with_reducible refine CB.out.mono ?_); rintro _ w2 ⟨rfl, b2⟩; have d0 := kkB b2 c0; have d1 := kkB b2 c1; have d2 := kkB b2 c2; have d3 := kkB b2 c3; obtain ⟨p0, p1, p2, p3, hfz⟩ := HP.out w2 b2; have f0 := hfz (i * 4); have f1 := hfz (i * 4 + 1); have f2 := hfz (i * 4 + 2); have f3 := hfz (i * 4 + 3))
          have hb2 := bt7 HBW.out b2
          have HW3 := Lib.hid (row_put (row_below HROW.out hb2) i (by omega) y)
          have HI2 := Lib.hid (HI.out.keep hlt (by rw [hy]; exact hq))
          rw [hy] at HI2
          have HG3 := Lib.hid (show w.grownBy (w2.setCells g (i * 4) y.cells) (some g) from grownBy_trans (grownBy_trans HG.out (grownBy_of_below hb2 _)) (setCells_grown g _ _ w2))
          have HK3 := Lib.hid (show (w2.setCells g (i * 4) y.cells).cell? ⟨X, 0, none⟩ = some (.string key) from (World.cell?_of_block (setCells_other g y.cells (i * 4) w2 X hX)).trans (kkB b2 HKW.out))
          go_roundw
          case rel =>
            refine ⟨i + 1, j + 1, dk.take i ++ y :: dk.drop (i + 1), by go_num, by go_num, HI2, ?_, HK3.out, HG3.out⟩
            have := HW3.out
            rw [HI2.out.len] at this
            exact this
          case measure => simp [intOf]; omega
      · obtain rfl : j = es.length := by omega
        obtain ⟨vs, hvl, hcl⟩ := clear_run hrow i (by omega)
        have hcl2 := fun ty => hcl ty (cap + 1 - i)
        rw [hlen] at hcl2
        have HWIP := Lib.hid (row_wipe hrow i (by omega) vs hvl)
        rw [HI.out.low, List.take_of_length_le (Nat.le_refl _)] at HWIP
        have hcnt := HI.out.count
        rw [List.take_of_length_le (Nat.le_refl _)] at hcnt
        have HCNT := Lib.hid hcnt
        have HG3 := Lib.hid (show w.grownBy (wr.setCells g (i * 4) vs) (some g) from grownBy_trans HG.out (setCells_grown g _ _ wr))
        have h1 : (i : Int) ≤ (es.length : Int) := by omega
        have h2 : (i : Int) ≤ ((cap + 1 : Nat) : Int) := by omega
        clear hcl hE hrow hkey hgr HCE hcnt HROW
        go_wp2
        go_ret
        refine ⟨_, rfl, ?_, rfl, HG3.out⟩
        have := HWIP.out
        rw [← HCNT.out] at this ⊢
        exact this
end Go.Proofs.Ytopnbbchiglpoaa
