/- Two versions that are not alike; a failure with a list of numbers that came in. -/
import Derived.Test.YtlecffpjcjlabaaGreatIM3
import Derived.Test.YtlecffpjcjlabaaGreatTI
import Derived.Laws.StructEq
namespace Go.Proofs.YtlecffpjcjlabaaGreat
open Go.RowKit Go.Shelf

theorem eqTab_no (n1 l1 z1 n2 l2 z2 : Int) (f1 g1 f2 g2 : ByteArray) (w : World) (h : (⟨n1, l1, z1, f1, g1⟩ : Tb) ≠ ⟨n2, l2, z2, f2, g2⟩) :
    (binOp .eql 89 (.agg #[.int .i64 n1, .int .i64 l1, .int .i64 z1, .string f1, .string g1]) (.agg #[.int .i64 n2, .int .i64 l2, .int .i64 z2, .string f2, .string g2])).run Tryz.prog w = .ok (.bool false) w := by
  have hS : Tryz.prog.underlying 89 = some (.struct (Tryz.prog.fieldsOf 89)) := by kernel_rfl
  have hp : Tryz.prog.stoodInHeld 89 = false := by kernel_rfl
  rw [run_eql_struct, show (10000 : Nat) = 9999 + 1 from rfl, run_equalIn_agg w 9999 89 _ _ hS hp]
  simp only [Program.fieldsOf, Tryz.underlying89]
  go_simp
  intro a b c d e
  rw [ByteArray.toList_eq, ByteArray.toList_eq] at d e
  refine h ?_
  cases f1; cases f2; cases g1; cases g2
  simp_all
set_option maxHeartbeats 4000000 in
set_option maxRecDepth 100000 in
/-- Two lists of other tables are told not to be the same. -/
theorem sameT_no (u v : Value) (ts us : List Tb) (w : World) (hU : TbsV w u ts) (hV : TbsV w v us) (hl : ts.length ≤ 100000) (hl2 : us.length ≤ 100000) (hne : ts ≠ us) :
    Calls Tryz.prog 59 #[u, v] w fun e w' => e = .returned (.bool false) ∧ Below w.heap.size w w' := by
  obtain ⟨a, c, rfl⟩ := hU.len
  obtain ⟨a2, c2, rfl⟩ := hV.len
  have HU := Lib.hid hU
  have HV := Lib.hid hV
  have HNE := Lib.hid hne
  clear hU hV hne
  obtain ⟨n1, hn1⟩ : ∃ n, ts.length = n := ⟨_, rfl⟩
  obtain ⟨n2, hn2⟩ : ∃ n, us.length = n := ⟨_, rfl⟩
  have HL1 := Lib.hid hn1
  have HL2 := Lib.hid hn2
  rw [hn1] at hl HU ⊢
  rw [hn2] at hl2 HV ⊢
  clear hn1 hn2
  by_cases hnn : n1 = n2
  · subst hnn
    go_enter Tryz.func59, Tryz.ntmps59
    go_wp2
    go_loopw [5] (fun iv wr => ∃ (i : Nat), iv = .int .i64 (i : Int) ∧ i ≤ n1 ∧ Hid (∀ k, k < i → tabAt ts k = tabAt us k) ∧ Hid (Below w.heap.size w wr)) (fun iv _ => n1 - (intOf iv).toNat)
    case atStart => exact ⟨0, rfl, Nat.zero_le _, Lib.hid (fun k hk => absurd hk (Nat.not_lt_zero k)), Lib.hid (Below.refl _ _)⟩
    case round =>
      obtain ⟨i, rfl, hi, HEQ, HB⟩ := hrel
      by_cases hlt : i < n1
      · have hl1 : i < ts.length := by rw [HL1.out]; exact hlt
        have hl3 : i < us.length := by rw [HL2.out]; exact hlt
        obtain ⟨b, off, rfl, hblt, hcell⟩ := (HU.out.below HB.out).at hl1
        obtain ⟨b2, off2, rfl, hblt2, hcell2⟩ := (HV.out.below HB.out).at hl3
        obtain ⟨x, hx⟩ : ∃ x, tabAt ts i = x := ⟨_, rfl⟩
        obtain ⟨y, hy⟩ : ∃ y, tabAt us i = y := ⟨_, rfl⟩
        have HXY := Lib.hid (And.intro hx hy)
        rw [hx] at hcell
        rw [hy] at hcell2
        clear hx hy hl1 hl3
        by_cases hxy : x = y
        · subst hxy
          obtain ⟨m1, l1, z1, f1, g1⟩ := x
          have q0 : wr.cell? ⟨b, off + i * 5, none⟩ = some (.int .i64 m1) := hcell 0 _ rfl
          have q1 : wr.cell? ⟨b, off + i * 5 + 1, none⟩ = some (.int .i64 l1) := hcell 1 _ rfl
          have q2 : wr.cell? ⟨b, off + i * 5 + 2, none⟩ = some (.int .i64 z1) := hcell 2 _ rfl
          have q3 : wr.cell? ⟨b, off + i * 5 + 3, none⟩ = some (.string f1) := hcell 3 _ rfl
          have q4 : wr.cell? ⟨b, off + i * 5 + 4, none⟩ = some (.string g1) := hcell 4 _ rfl
          have p0 : wr.cell? ⟨b2, off2 + i * 5, none⟩ = some (.int .i64 m1) := hcell2 0 _ rfl
          have p1 : wr.cell? ⟨b2, off2 + i * 5 + 1, none⟩ = some (.int .i64 l1) := hcell2 1 _ rfl
          have p2 : wr.cell? ⟨b2, off2 + i * 5 + 2, none⟩ = some (.int .i64 z1) := hcell2 2 _ rfl
          have p3 : wr.cell? ⟨b2, off2 + i * 5 + 3, none⟩ = some (.string f1) := hcell2 3 _ rfl
          have p4 : wr.cell? ⟨b2, off2 + i * 5 + 4, none⟩ = some (.string g1) := hcell2 4 _ rfl
          have hiI : (i : Int) < (n1 : Int) := by omega
          clear hcell hcell2
          go_wp2
          go_quiet (fail)
          go_wp2
          go_roundw
          case rel => exact ⟨i + 1, by go_num, by omega, Lib.hid (fun k hk => by
            by_cases hki : k = i
            · rw [hki, HXY.out.1, HXY.out.2]
            · exact HEQ.out k (by omega)), Lib.hid (belowN HB.out _)⟩
          case measure => simp [intOf]; omega
        · obtain ⟨m1, l1, z1, f1, g1⟩ := x
          obtain ⟨m2, l2, z2, f2, g2⟩ := y
          have hE := fun W => eqTab_no m1 l1 z1 m2 l2 z2 f1 g1 f2 g2 W hxy
          clear hxy
          have q0 : wr.cell? ⟨b, off + i * 5, none⟩ = some (.int .i64 m1) := hcell 0 _ rfl
          have q1 : wr.cell? ⟨b, off + i * 5 + 1, none⟩ = some (.int .i64 l1) := hcell 1 _ rfl
          have q2 : wr.cell? ⟨b, off + i * 5 + 2, none⟩ = some (.int .i64 z1) := hcell 2 _ rfl
          have q3 : wr.cell? ⟨b, off + i * 5 + 3, none⟩ = some (.string f1) := hcell 3 _ rfl
          have q4 : wr.cell? ⟨b, off + i * 5 + 4, none⟩ = some (.string g1) := hcell 4 _ rfl
          have p0 : wr.cell? ⟨b2, off2 + i * 5, none⟩ = some (.int .i64 m2) := hcell2 0 _ rfl
          have p1 : wr.cell? ⟨b2, off2 + i * 5 + 1, none⟩ = some (.int .i64 l2) := hcell2 1 _ rfl
          have p2 : wr.cell? ⟨b2, off2 + i * 5 + 2, none⟩ = some (.int .i64 z2) := hcell2 2 _ rfl
          have p3 : wr.cell? ⟨b2, off2 + i * 5 + 3, none⟩ = some (.string f2) := hcell2 3 _ rfl
          have p4 : wr.cell? ⟨b2, off2 + i * 5 + 4, none⟩ = some (.string g2) := hcell2 4 _ rfl
          have hiI : (i : Int) < (n1 : Int) := by omega
          clear hcell hcell2
          go_wp2
          go_quiet (fail)
          go_wp2
          go_ret
          exact ⟨rfl, belowN HB.out _⟩
      · obtain rfl : i = n1 := by omega
        exact absurd (List.ext_getElem (by rw [HL1.out, HL2.out]) fun k h1 h2 => by
          have := HEQ.out k (by rw [← HL1.out]; exact h1)
          rw [tabAt_get h1, tabAt_get h2] at this
          exact this) HNE.out
  · have d : ((n1 : Int) != (n2 : Int)) = true := by simp; omega
    have d' : (n1 != n2) = true := by simpa using hnn
    clear hnn
    go_enter Tryz.func59, Tryz.ntmps59
    go_wp2
    go_ret
    exact ⟨rfl, Below.refl _ _⟩
set_option maxHeartbeats 4000000 in
set_option maxRecDepth 100000 in
theorem sameV_no (log next : Int) (seq : Nat) (log' next' : Int) (seq' : Nat) (u v : Value) (ts us : List Tb) (w : World) (hU : TbsV w u ts) (hV : TbsV w v us) (hl : ts.length ≤ 100000) (hl2 : us.length ≤ 100000) (hne : ¬ (log = log' ∧ next = next' ∧ seq = seq' ∧ ts = us)) :
    Calls Tryz.prog 17 #[.agg #[.int .i64 log, .int .i64 next, .int .u64 (seq : Int), u], .agg #[.int .i64 log', .int .i64 next', .int .u64 (seq' : Int), v]] w fun x w' => x = .returned (.bool false) ∧ Below w.heap.size w w' := by
  obtain ⟨W1, hW1⟩ : ∃ W1, (w.alloc (.cells #[.int .i64 log, .int .i64 next, .int .u64 (seq : Int), u] 63)).alloc (.cells #[.int .i64 log', .int .i64 next', .int .u64 (seq' : Int), v] 69) = W1 := ⟨_, rfl⟩
  have b1 : Below w.heap.size w W1 := by rw [← hW1]; exact ((Below.refl _ _).alloc (Nat.le_refl _) _).alloc (by simp) _
  have x1 : BoxV w.heap.size log next seq u W1 := by rw [← hW1]; exact (Below.heap_alloc _ _ _ (by simp)).trans (new_block _ _ rfl)
  have z1 : BoxR (w.heap.size + 1) log' next' seq' v W1 := by rw [← hW1]; exact new_block _ _ (by simp)
  have C0 := fun h => sameT_no u v ts us W1 (hU.below b1) (hV.below b1) hl hl2 h
  obtain ⟨a, c, rfl⟩ := hU.len
  obtain ⟨a2, c2, rfl⟩ := hV.len
  have p0 := x1.c0
  have p1 := x1.c1
  have p2 := x1.c2
  have p3 := x1.c3
  have g0 := z1.c0
  have g1 := z1.c1
  have g2 := z1.c2
  have g3 := z1.c3
  have HB := Lib.hid b1
  have HW1 := Lib.hid hW1
  clear b1 x1 z1 hU hV hW1
  by_cases e0 : log = log'
  · subst e0
    by_cases e1 : next = next'
    · subst e1
      by_cases e2 : seq = seq'
      · subst e2
        have C1 := Lib.hid (C0 fun h => hne ⟨rfl, rfl, rfl, h⟩)
        clear C0 hne
        go_enter Tryz.func17, Tryz.ntmps17
        go_upto_region 1 with fail
        try rw [HW1.out]
        go_wp2_with (go_at_call 59; (with_reducible refine C1.out.mono ?_); rintro _ w2 ⟨rfl, hb2⟩)
        go_ret
        exact ⟨rfl, HB.out.trans (hb2.mono HB.out.size)⟩
      · have d2 : ((seq : Int) == (seq' : Int)) = false := by simp; omega
        have d2' : (seq == seq') = false := by simpa using e2
        clear C0 hne e2
        go_enter Tryz.func17, Tryz.ntmps17
        go_upto_region 1 with fail
        try rw [HW1.out]
        go_wp2_with fail
        go_ret
        exact ⟨rfl, HB.out⟩
    · have d1 : (next == next') = false := by simpa using e1
      clear C0 hne e1
      go_enter Tryz.func17, Tryz.ntmps17
      go_upto_region 1 with fail
      try rw [HW1.out]
      go_wp2_with fail
      go_ret
      exact ⟨rfl, HB.out⟩
  · have d0 : (log == log') = false := by simpa using e0
    clear C0 hne e0
    go_enter Tryz.func17, Tryz.ntmps17
    go_upto_region 1 with fail
    try rw [HW1.out]
    go_wp2_with fail
    go_ret
    exact ⟨rfl, HB.out⟩
/-- A failure, with a list of numbers that came in. -/
theorem hs_crashL {F : Nat → Prop} {p n m : Nat} {s : St} {w w0 : World} (h : Hs F w.heap.size p n m s w0) (hb : Below w.heap.size w w0) (hN : n ≤ 100000) (hM : m ≤ 1000000000) (dir : Int) (a : Option Addr) (len cap : Nat) (ks : List Int) (hI : IsIs w a len ks) (hc : len ≤ cap ∧ cap ≤ maxLen) :
    Calls Tryz.prog 29 #[.pointer (some ⟨p, 0, none⟩), .int .i64 dir, .slice a len cap] w0 fun e w' => e = .returned (.tuple #[]) ∧ Hs F w.heap.size p n m (s.crash dir ks) w' ∧ Below w.heap.size w0 w' ∧ Kp F w0 w' := by
  have hB := h.size
  obtain ⟨-, rfl, -, hr⟩ := hI
  obtain ⟨r, h1, rfl, h3, h4, h5, h6⟩ := h
  refine (crash_any h1 h4 hN hM h5 dir _ ks ⟨a, cap, rfl, hc.2, hc.1, fun i hi => ?_⟩).mono ?_
  · rcases hr with rfl | ⟨b, off, e, hcell⟩
    · exact absurd hi (Nat.not_lt_zero i)
    · have hlt : b < w.heap.size := World.block_lt_of_cell? _ _ (hcell i hi)
      exact ⟨b, off, e, fun hm => by have := h3 b hm; omega, (hb.cell (p := ⟨b, off + i, none⟩) hlt).trans (hcell i hi)⟩
  rintro e w' ⟨rfl, hn'⟩
  exact ⟨rfl, Hs.next hB h3 rfl hn' (crash_lim h4 _ _) (crash_coh _ _ _) h6⟩
open Go.ChangeShapes Go.WideShapes Go.ChangeAt in
theorem rowI_cap {H : Type} {enc : TypeId × Value → H} {w : World} {base fuel : Nat} {held : Bool} {a : Option Addr} {len cap : Nat} {x : DataW H × List MemPlace}
    (h : DataW.trod enc Tryz.prog w base (fun _ => true) held fuel 50 (Value.slice a len cap).cells.toList = some x) : len ≤ cap ∧ cap ≤ maxLen := by
  rcases open_ints Tryz.underlying50 Tryz.underlying3 cellsIntI h with ⟨hcs, _⟩ | ⟨y, l, c, zs, hcs, _, hl, hm, hz, _, hcell, hwz⟩
  · simp [Value.cells] at hcs
    obtain ⟨rfl, rfl, rfl⟩ := hcs
    exact ⟨Nat.le_refl _, Nat.zero_le _⟩
  · simp [Value.cells] at hcs
    obtain ⟨rfl, rfl, rfl⟩ := hcs
    exact ⟨hl, hm⟩
open Go.ChangeShapes Go.WideShapes Go.ChangeAt in
theorem rowI_nil {H : Type} {enc : TypeId × Value → H} {w : World} {base fuel : Nat} {held : Bool} {a : Option Addr} {len cap : Nat} {x : DataW H × List MemPlace}
    (h : DataW.trod enc Tryz.prog w base (fun _ => true) held fuel 50 (Value.slice a len cap).cells.toList = some x) : a = none → cap = 0 := by
  rcases open_ints Tryz.underlying50 Tryz.underlying3 cellsIntI h with ⟨hcs, _⟩ | ⟨y, l, c, zs, hcs, _, hl, hm, hz, _, hcell, hwz⟩
  · simp [Value.cells] at hcs
    exact fun _ => hcs.2.2
  · simp [Value.cells] at hcs
    exact fun e => by rw [hcs.1] at e; cases e
end Go.Proofs.YtlecffpjcjlabaaGreat
