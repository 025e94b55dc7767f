/- The document's own Pick, over the versions of BR3 (as YH over the Y parts); of versions in order it is the first one (findT). -/
import Derived.Test.YthaalhigmihijacGreatTE
import Derived.Test.YthaalhigmihijacGreatTL
namespace Go.Proofs.YthaalhigmihijacGreat
open Go.RowKit

def getV (o : Option Ent) : Value := .tuple #[(o.getD Ent.zero).val, .bool o.isSome]
def picks (key : ByteArray) (seq : Int) (o : Option Ent) (x : Ent) : Bool := x.k.toList == key.toList && (decide (x.s ≤ seq) && (!o.isSome || decide ((o.getD Ent.zero).s < x.s)))
def pickF (key : ByteArray) (seq : Int) : List Ent → Option Ent
  | es => es.foldl (fun o x => if picks key seq o x = true then some x else o) none
theorem pickF_take (key : ByteArray) (seq : Int) (es : List Ent) (i : Nat) (h : i < es.length) : pickF key seq (es.take (i + 1)) = if picks key seq (pickF key seq (es.take i)) es[i] = true then some es[i] else pickF key seq (es.take i) := by
  unfold pickF
  rw [List.take_succ_eq_append_getElem h, List.foldl_append]
  rfl
theorem keep4 {B C : Nat} {k k' : ByteArray} {s s' n n' : Int} {v v' : ByteArray} {w : World} (h : Boxe B k s n v w) (hne : B ≠ C) : Boxe B k s n v ((((w.setCell ⟨C, 0, none⟩ (.string k')).setCell ⟨C, 1, none⟩ (.int .u64 s')).setCell ⟨C, 2, none⟩ (.int .i64 n')).setCell ⟨C, 3, none⟩ (.string v')) :=
  (heap_setCell_other _ ⟨C, 3, none⟩ B _ hne).trans ((heap_setCell_other _ ⟨C, 2, none⟩ B _ hne).trans ((heap_setCell_other _ ⟨C, 1, none⟩ B _ hne).trans ((heap_setCell_other w ⟨C, 0, none⟩ B _ hne).trans h)))
theorem boxe_set {B : Nat} {k k' : ByteArray} {s s' n n' : Int} {v v' : ByteArray} {w : World} (h : Boxe B k s n v w) : Boxe B k' s' n' v' ((((w.setCell ⟨B, 0, none⟩ (.string k')).setCell ⟨B, 1, none⟩ (.int .u64 s')).setCell ⟨B, 2, none⟩ (.int .i64 n')).setCell ⟨B, 3, none⟩ (.string v')) := by
  have h1 := heap_setCell_same w B 0 _ _ (.string k') h
  have h2 := heap_setCell_same _ B 1 _ _ (.int .u64 s') h1
  have h3 := heap_setCell_same _ B 2 _ _ (.int .i64 n') h2
  have h4 := heap_setCell_same _ B 3 _ _ (.string v') h3
  exact h4
set_option maxHeartbeats 8000000 in
set_option maxRecDepth 100000 in
theorem pickF_any {n₀ : Nat} (a : Option Addr) (len cap : Nat) (es : List Ent) (key : ByteArray) (seq : Int) (w : World) (hn : n₀ ≤ w.heap.size) (hE : EntsAt n₀ w a len es) (hl : len ≤ 100000) :
    Calls Tryz.prog 25 #[.slice a len cap, .string key, .int .u64 seq] w fun e w' => e = .returned (getV (pickF key seq es)) ∧ Below w.heap.size w w' := by
  have hel := hE.1
  have HE := Lib.hid hE
  clear hE
  go_enter Tryz.func25, Tryz.ntmps25
  go_wp2
  obtain ⟨W, hW⟩ : ∃ W, (w.alloc (.cells #[.string ⟨#[]⟩, .int .u64 0, .int .i64 0, .string ⟨#[]⟩] 52)).alloc (.cells #[.string ⟨#[]⟩, .int .u64 0, .int .i64 0, .string ⟨#[]⟩] 52) = W := ⟨_, rfl⟩
  have HB := Lib.hid (show Below w.heap.size w W by rw [← hW]; exact ((Below.refl _ _).alloc (Nat.le_refl _) _).alloc (by simp) _)
  have HX := Lib.hid (show Boxe w.heap.size ⟨#[]⟩ 0 0 ⟨#[]⟩ W by rw [← hW]; exact (Below.heap_alloc _ _ _ (by simp)).trans (new_block _ _ rfl))
  have HY := Lib.hid (show Boxe (w.heap.size + 1) ⟨#[]⟩ 0 0 ⟨#[]⟩ W by rw [← hW]; exact new_block _ _ (by simp))
  rw [hW]
  clear hW
  go_loopw [9, 10] (fun fv iv wr => ∃ (i : Nat) (o : Option Ent), fv = .bool o.isSome ∧ iv = .int .i64 (i : Int) ∧ i ≤ len ∧ o = pickF key seq (es.take i) ∧ Boxe w.heap.size ⟨#[]⟩ 0 0 ⟨#[]⟩ wr ∧ Boxe (w.heap.size + 1) (o.getD Ent.zero).k (o.getD Ent.zero).s (o.getD Ent.zero).n (o.getD Ent.zero).v wr ∧ Below w.heap.size w wr) (fun _ iv _ => len - (intOf iv).toNat)
  case atStart => exact ⟨0, none, rfl, rfl, Nat.zero_le _, rfl, HX.out, HY.out, HB.out⟩
  case round =>
    obtain ⟨i, o, rfl, rfl, hil, ho, hx, hy, hbl⟩ := hrel
    have HO := Lib.hid ho
    have HXX := Lib.hid hx
    have HYY := Lib.hid hy
    have HBL := Lib.hid hbl
    obtain ⟨bo, hbo⟩ : ∃ bo, bo = o.getD Ent.zero := ⟨_, rfl⟩
    rw [← hbo] at hy
    have HBO := Lib.hid hbo
    have y0 := hy.c0
    have y1 := hy.c1
    have y2 := hy.c2
    have y3 := hy.c3
    have g0 := hy.f 0
    have g1 := hy.f 1
    have g2 := hy.f 2
    have g3 := hy.f 3
    clear ho hbo
    by_cases hlt : i < len
    · obtain ⟨b, off, rfl, hblt, hcell⟩ : ∃ b off, a = some ⟨b, off, none⟩ ∧ b < w.heap.size ∧ ∀ j u, (es[i]'(by omega)).cells[j]? = some u → wr.cell? ⟨b, off + i * 4 + j, none⟩ = some u := by
        rcases HE.out.2 with h0 | ⟨b, off, e, h1, h2⟩
        · omega
        · exact ⟨b, off, e, Nat.lt_of_lt_of_le h1 hn, fun j u hu => (HBL.out.cell (p := ⟨b, off + i * 4 + j, none⟩) (Nat.lt_of_lt_of_le h1 hn)).trans (h2 i (by omega) j u hu)⟩
      have hiI : (i : Int) < (len : Int) := by omega
      have HST := Lib.hid (pickF_take key seq es i (by omega))
      rw [← HO.out] at HST
      generalize es[i]'(by omega) = x at *
      have q0 : wr.cell? ⟨b, off + i * 4, none⟩ = some (.string x.k) := hcell 0 _ rfl
      have q1 : wr.cell? ⟨b, off + i * 4 + 1, none⟩ = some (.int .u64 x.s) := hcell 1 _ rfl
      have q2 : wr.cell? ⟨b, off + i * 4 + 2, none⟩ = some (.int .i64 x.n) := hcell 2 _ rfl
      have q3 : wr.cell? ⟨b, off + i * 4 + 3, none⟩ = some (.string x.v) := hcell 3 _ rfl
      clear hcell hx hy hbl
      unfold picks at HST
      rw [← HBO.out] at HST
      obtain ⟨f, hf⟩ : ∃ f, f = o.isSome := ⟨_, rfl⟩
      rw [← hf] at HST ⊢
      have HF := Lib.hid hf
      clear hf
      cases c1 : (x.k.toList == key.toList) with
      | false =>
        rw [c1] at HST
        go_wp2
        go_quiet (fail)
        go_wp2
        go_roundw
        case rel => exact ⟨i + 1, o, by rw [HF.out], by go_num, by omega, by rw [HST.out]; simp, HXX.out, HYY.out, belowN HBL.out _⟩
        case measure => simp [intOf]; omega
      | true =>
        rw [c1] at HST
        cases c2 : decide (x.s ≤ seq) with
        | false =>
          rw [c2] at HST
          go_wp2
          go_quiet (fail)
          go_wp2
          go_roundw
          case rel => exact ⟨i + 1, o, by rw [HF.out], by go_num, by omega, by rw [HST.out]; simp, HXX.out, HYY.out, belowN HBL.out _⟩
          case measure => simp [intOf]; omega
        | true =>
          rw [c2] at HST
          cases f with
          | false =>
            go_wp2
            go_quiet (fail)
            go_wp2
            go_roundw
            case rel =>
              refine ⟨i + 1, some x, rfl, by go_num, by omega, by rw [HST.out]; simp, ?_, boxe_set (k := bo.k) (s := bo.s) (n := bo.n) (v := bo.v) (by rw [HBO.out]; exact HYY.out), ?_⟩
              · exact keep4 HXX.out (by omega)
              · have h1 : w.heap.size ≤ w.heap.size + 1 := by omega
                exact ((((belowN HBL.out _).setCell h1 _).setCell h1 _).setCell h1 _).setCell h1 _
            case measure => simp [intOf]; omega
          | true =>
            cases c3 : decide (bo.s < x.s) with
            | false =>
              rw [c3] at HST
              go_wp2
              go_quiet (fail)
              go_wp2
              go_roundw
              case rel => exact ⟨i + 1, o, by rw [HF.out], by go_num, by omega, by rw [HST.out]; simp, HXX.out, HYY.out, belowN HBL.out _⟩
              case measure => simp [intOf]; omega
            | true =>
              rw [c3] at HST
              go_wp2
              go_quiet (fail)
              go_wp2
              go_roundw
              case rel =>
                refine ⟨i + 1, some x, rfl, by go_num, by omega, by rw [HST.out]; simp, ?_, boxe_set (k := bo.k) (s := bo.s) (n := bo.n) (v := bo.v) (by rw [HBO.out]; exact HYY.out), ?_⟩
                · exact keep4 HXX.out (by omega)
                · have h1 : w.heap.size ≤ w.heap.size + 1 := by omega
                  exact ((((belowN HBL.out _).setCell h1 _).setCell h1 _).setCell h1 _).setCell h1 _
              case measure => simp [intOf]; omega
    · obtain rfl : i = len := by omega
      have HT := Lib.hid (show es.take i = es from List.take_of_length_le (by omega))
      have d0 := hx.c0
      have d1 := hx.c1
      have d2 := hx.c2
      have d3 := hx.c3
      have t0 := hx.f 0
      have t1 := hx.f 1
      have t2 := hx.f 2
      have t3 := hx.f 3
      clear hx hy hbl
      go_wp2
      refine bodyPost_ret (v := getV o) (by simp [results, Tryz.results25, go_sem, d0, d1, d2, d3, getV, Ent.val, ev, ← HBO.out]) rfl ?_
      refine ⟨by rw [HO.out, HT.out], ?_⟩
      exact (((HBL.out.setCell (Nat.le_refl _) _).setCell (Nat.le_refl _) _).setCell (Nat.le_refl _) _).setCell (Nat.le_refl _) _
/-- In order: each one before each later one. -/
theorem ordB_two {es : List Ent} (ho : ordB es es.length = true) {i : Nat} : ∀ j, i < j → j < es.length → cmpN (entAt es i) (entAt es j) = -1 := by
  intro j
  induction j with
  | zero => intro h; omega
  | succ j ih =>
    intro h1 h2
    have hc := (ordB_at ho h2).2 (by omega)
    rw [show j + 1 - 1 = j by omega] at hc
    have hs : cmpN (entAt es j) (entAt es (j + 1)) = -1 := by
      unfold cmpN at *
      rcases cmpE_vals (entAt es j).k (entAt es j).s (entAt es (j + 1)).k (entAt es (j + 1)).s with h | h | h <;> omega
    by_cases e : i = j
    · rw [e]; exact hs
    · exact cmpE_trans _ _ _ _ _ _ (ih (by omega) (by omega)) hs
theorem ordB_seq {es : List Ent} (ho : ordB es es.length = true) {i j : Nat} (hij : i < j) (hj : j < es.length) (hk : (entAt es i).k = (entAt es j).k) : (entAt es j).s < (entAt es i).s := by
  have h := ordB_two ho j hij hj
  unfold cmpN at h
  rw [hk, cmpE_same] at h
  unfold cmpU at h
  split at h
  · assumption
  · split at h <;> simp at h
theorem keyEq (a b : ByteArray) : (a.toList == b.toList) = decide (a = b) := by
  rw [ByteArray.toList_eq, ByteArray.toList_eq]
  by_cases h : a = b
  · rw [h]; simp
  · rw [decide_eq_false h]
    refine beq_eq_false_iff_ne.2 (fun e => h ?_)
    exact ByteArray.ext (Array.toList_inj.1 e)
/-- Of versions in order the document's Pick is the first one that fits. -/
theorem pick_find {es : List Ent} (ho : ordB es es.length = true) (key : ByteArray) (seq : Nat) : pickF key (seq : Int) es = findT es key seq := by
  have main : ∀ k, k ≤ es.length → pickF key (seq : Int) (es.take k) = findT (es.take k) key seq := by
    intro k
    induction k with
    | zero => intro _; rfl
    | succ k ih =>
      intro hk
      rw [pickF_take key _ es k (by omega), ih (by omega), List.take_succ_eq_append_getElem (show k < es.length by omega)]
      have hf : findT (es.take k ++ [es[k]]) key seq = (findT (es.take k) key seq).or (if es[k].k = key ∧ es[k].s ≤ (seq : Int) then some es[k] else none) := by
        unfold findT
        rw [List.find?_append]
        by_cases h : es[k].k = key ∧ es[k].s ≤ (seq : Int)
        · rw [if_pos h, List.find?_cons_of_pos (by exact decide_eq_true h)]
        · rw [if_neg h, List.find?_cons_of_neg (by rw [decide_eq_false h]; simp)]; rfl
      rw [hf]
      unfold picks
      rw [keyEq]
      cases ho' : findT (es.take k) key seq with
      | none =>
        simp only [Option.isSome_none, Bool.not_false, Bool.true_or, Bool.and_true, Option.none_or]
        by_cases h1 : es[k].k = key <;> by_cases h2 : es[k].s ≤ (seq : Int) <;> simp [h1, h2]
      | some y =>
        have hn : ¬ (es[k].k = key ∧ y.s < es[k].s) := by
          rintro ⟨e1, e2⟩
          unfold findT at ho'
          obtain ⟨hp, i, hi, hy, -⟩ := List.find?_eq_some_iff_getElem.1 ho'
          rw [List.length_take] at hi
          rw [List.getElem_take] at hy
          have hp' := of_decide_eq_true hp
          have hlt := ordB_seq ho (i := i) (j := k) (by omega) (by omega) (by rw [entAt_get (show i < es.length by omega), entAt_get (show k < es.length by omega), hy, e1]; exact hp'.1)
          rw [entAt_get (show i < es.length by omega), entAt_get (show k < es.length by omega), hy] at hlt
          omega
        simp only [Option.isSome_some, Bool.not_true, Bool.false_or, Option.getD_some, Option.some_or]
        rw [if_neg]
        intro h
        simp only [Bool.and_eq_true, decide_eq_true_eq] at h
        exact hn ⟨h.1, h.2.2⟩
  have h := main es.length (Nat.le_refl _)
  rw [List.take_length] at h
  exact h
end Go.Proofs.YthaalhigmihijacGreat
