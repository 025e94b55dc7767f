/- Joined: VG5F VG5. -/
import Derived.Test.YtmnboiikopkaoaaGreatVG6
import Derived.Test.YtmnboiikopkaoaaGreatVGT
import Derived.Deep.DeepCutAuto
namespace Go.Proofs.YtmnboiikopkaoaaGreat
open Go.RowKit Go.Shelf

def Fr9 (p sz bx b off len cap k : Nat) (ds : List Deferred) (a' : Act) : Prop := ∃ u : Nat → Value, a' = { tmps := (u 0 :: (.int .i64 (p : Int) : Value) :: u 2 :: u 3 :: u 4 :: u 5 :: u 6 :: u 7 :: u 8 :: (.int .i64 (sz : Int) : Value) :: (.pointer (some ⟨bx, 0, none⟩) : Value) :: u 11 :: u 12 :: u 13 :: u 14 :: u 15 :: u 16 :: u 17 :: u 18 :: u 19 :: u 20 :: u 21 :: u 22 :: u 23 :: u 24 :: u 25 :: u 26 :: u 27 :: u 28 :: u 29 :: u 30 :: u 31 :: u 32 :: u 33 :: u 34 :: u 35 :: u 36 :: u 37 :: u 38 :: u 39 :: u 40 :: (.slice (some ⟨b, off, none⟩) len cap : Value) :: (.int .i64 (len : Int) : Value) :: (.int .i64 (k : Int) : Value) :: u 44 :: u 45 :: u 46 :: u 47 :: u 48 :: u 49 :: u 50 :: u 51 :: u 52 :: u 53 :: u 54 :: u 55 :: u 56 :: u 57 :: u 58 :: u 59 :: u 60 :: u 61 :: u 62 :: u 63 :: u 64 :: u 65 :: u 66 :: u 67 :: u 68 :: u 69 :: []).toArray, defers := ds }
theorem fr9_of {p sz bx b off len cap k : Nat} {ds : List Deferred} {x0 x1 x2 x3 x4 x5 x6 x7 x8 x9 x10 x11 x12 x13 x14 x15 x16 x17 x18 x19 x20 x21 x22 x23 x24 x25 x26 x27 x28 x29 x30 x31 x32 x33 x34 x35 x36 x37 x38 x39 x40 x41 x42 x43 x44 x45 x46 x47 x48 x49 x50 x51 x52 x53 x54 x55 x56 x57 x58 x59 x60 x61 x62 x63 x64 x65 x66 x67 x68 x69 : Value} (h1 : x1 = .int .i64 (p : Int)) (h9 : x9 = .int .i64 (sz : Int)) (h10 : x10 = .pointer (some ⟨bx, 0, none⟩)) (h41 : x41 = .slice (some ⟨b, off, none⟩) len cap) (h42 : x42 = .int .i64 (len : Int)) (h43 : x43 = .int .i64 (k : Int)) :
    Fr9 p sz bx b off len cap k ds { tmps := (x0 :: x1 :: x2 :: x3 :: x4 :: x5 :: x6 :: x7 :: x8 :: x9 :: x10 :: x11 :: x12 :: x13 :: x14 :: x15 :: x16 :: x17 :: x18 :: x19 :: x20 :: x21 :: x22 :: x23 :: x24 :: x25 :: x26 :: x27 :: x28 :: x29 :: x30 :: x31 :: x32 :: x33 :: x34 :: x35 :: x36 :: x37 :: x38 :: x39 :: x40 :: x41 :: x42 :: x43 :: x44 :: x45 :: x46 :: x47 :: x48 :: x49 :: x50 :: x51 :: x52 :: x53 :: x54 :: x55 :: x56 :: x57 :: x58 :: x59 :: x60 :: x61 :: x62 :: x63 :: x64 :: x65 :: x66 :: x67 :: x68 :: x69 :: []).toArray, defers := ds } := by
  subst h1 h9 h10 h41 h42 h43
  exact ⟨fun i => match i with | 0 => x0 | 2 => x2 | 3 => x3 | 4 => x4 | 5 => x5 | 6 => x6 | 7 => x7 | 8 => x8 | 11 => x11 | 12 => x12 | 13 => x13 | 14 => x14 | 15 => x15 | 16 => x16 | 17 => x17 | 18 => x18 | 19 => x19 | 20 => x20 | 21 => x21 | 22 => x22 | 23 => x23 | 24 => x24 | 25 => x25 | 26 => x26 | 27 => x27 | 28 => x28 | 29 => x29 | 30 => x30 | 31 => x31 | 32 => x32 | 33 => x33 | 34 => x34 | 35 => x35 | 36 => x36 | 37 => x37 | 38 => x38 | 39 => x39 | 40 => x40 | 44 => x44 | 45 => x45 | 46 => x46 | 47 => x47 | 48 => x48 | 49 => x49 | 50 => x50 | 51 => x51 | 52 => x52 | 53 => x53 | 54 => x54 | 55 => x55 | 56 => x56 | 57 => x57 | 58 => x58 | 59 => x59 | 60 => x60 | 61 => x61 | 62 => x62 | 63 => x63 | 64 => x64 | 65 => x65 | 66 => x66 | 67 => x67 | 68 => x68 | 69 => x69 | _ => undef, rfl⟩
end Go.Proofs.YtmnboiikopkaoaaGreat

namespace Go.Proofs.YtmnboiikopkaoaaGreat
open Go.RowKit Go.Shelf

attribute [local go_sem] Oper.semAt_some

set_option maxHeartbeats 1000000 in
theorem make_bad (bits p : Int) (a : Option Addr) (len cap : Nat) (w : World) (h : bits < 1 ∨ 64 < bits ∨ p < 1 ∨ 20 < p) :
    Calls Tryz.prog 44 #[.int .i64 bits, .int .i64 p, .slice a len cap] w fun e w' => e = .returned (.tuple #[.string ⟨#[]⟩, .int .i64 1]) ∧ w = w' := by
  have done : ∀ b1 b2 b3 b4 : Bool, decide (bits < 1) = b1 → decide (64 < bits) = b2 → decide (p < 1) = b3 → decide (20 < p) = b4 → (b1 || b2 || b3 || b4) = true →
      Calls Tryz.prog 44 #[.int .i64 bits, .int .i64 p, .slice a len cap] w fun e w' => e = .returned (.tuple #[.string ⟨#[]⟩, .int .i64 1]) ∧ w = w' := by
    intro b1 b2 b3 b4 h1 h2 h3 h4 hb
    clear h
    cases b1 <;> cases b2 <;> cases b3 <;> cases b4 <;> first | (cases hb; done) | skip
    all_goals
      (go_enter Tryz.func44, Tryz.ntmps44
       go_wp2
       go_ret2
       exact ⟨rfl, rfl⟩)
  refine done _ _ _ _ rfl rfl rfl rfl ?_
  simp only [Bool.or_eq_true, decide_eq_true_eq]
  omega
theorem leaves_marks {n : Nat} {P : Program} {fn : Func} {tmps : Array Value} {R : Ending → World → Prop} (n₀ : Nat) : ∀ (Ds : List Nat) (W : World), Ds.Nodup → n₀ ≤ W.heap.size → (∀ D ∈ Ds, n₀ ≤ D ∧ W.heap[D]? = some (.deferred (some []))) →
    (∀ W', Below n₀ W W' → LeavesInM Fence.wide n P fn tmps R [] .returning W') → LeavesInM Fence.wide n P fn tmps R (Ds.map fun D => ({ target := .collected D, args := #[] } : Deferred)) .returning W
  | [], W, _, _, _, h => h W (Below.refl _ _)
  | D :: Ds, W, hn, h0, hD, h => by
    obtain ⟨hd, hk⟩ := hD D List.mem_cons_self
    have hb : Below n₀ W (W.putObj D (.deferred none)) := (Below.refl n₀ W).grown (grownBy_putObj' W D _) h0 (fun k e => by cases e; exact hd)
    refine ⟨by simp, .inl ⟨D, _, rfl, run_takeDeferred hk, ?_⟩⟩
    refine leaves_marks n₀ Ds _ (List.nodup_cons.1 hn).2 (Nat.le_trans h0 hb.size) (fun D' hD' => ?_) (fun W' hW' => h W' (hb.trans hW'))
    obtain ⟨hd', hk'⟩ := hD D' (List.mem_cons_of_mem _ hD')
    exact ⟨hd', (World.putObj_heap_other (fun e => (List.nodup_cons.1 hn).1 (by first | (rw [e]; exact hD') | (rw [← e]; exact hD')))).trans hk'⟩
theorem own_marks {β : Type} (B : Nat) (Ds : List Nat) (h : ∀ D ∈ Ds, D < B) : OwnFrom B (fun (_ : β) W => ∀ D ∈ Ds, W.heap[D]? = some (.deferred (some []))) := fun _ X Y row hs hg hr D hD => by
  have hx := hs D hD
  refine (hg.block D (Array.getElem?_eq_some_iff.1 hx).1 (fun e => ?_)).trans hx
  have := (hr D e.symm).1
  have := h D hD
  omega
/-- The state of Make's loop: the box of the slice, the bytes so far, the marks. -/
structure St9 (w : World) (p sz sz1 bx : Nat) (done : List ByteArray) (Ds : List Nat) (W : World) : Prop where
  box : Boxed W bx 78 (.slice (some ⟨w.heap.size, 0, none⟩) sz1 sz1)
  row : W.ownsRow w.heap.size 5 1 (.slice (some ⟨w.heap.size, 0, none⟩) sz1 sz1) sz1 (Lib.byteCells (fill (sz * 8) p done (List.replicate sz 0) ++ [0]))
  marks : ∀ D ∈ Ds, w.heap.size ≤ D ∧ D < W.heap.size ∧ W.heap[D]? = some (.deferred (some []))
  nodup : Ds.Nodup
  below : Below w.heap.size w W
theorem St9.alloc {w W : World} {p sz sz1 bx : Nat} {done : List ByteArray} {Ds : List Nat} (h : St9 w p sz sz1 bx done Ds W) (o : Obj) : St9 w p sz sz1 bx done Ds (W.alloc o) :=
  ⟨h.box.alloc o, h.row.alloc o, fun D hD => ⟨(h.marks D hD).1, by have := (h.marks D hD).2.1; simp; omega, (Below.heap_alloc W o D (h.marks D hD).2.1).trans (h.marks D hD).2.2⟩, h.nodup, h.below.alloc h.below.size o⟩
theorem byteCells_left (L : List UInt8) (q : Nat) (h : q < L.length) : (Lib.byteCells (L ++ [0]))[q]? = some (.int .u8 ((gbyteAt L q).toNat : Int)) := by
  unfold Lib.byteCells gbyteAt
  rw [List.getElem?_map, List.getElem?_append_left h, List.getElem?_eq_getElem h]
  rfl
theorem byteCells_set (L : List UInt8) (q : Nat) (v : UInt8) (h : q < L.length) : (Lib.byteCells (L ++ [0])).set q (.int .u8 (v.toNat : Int)) = Lib.byteCells (L.set q v ++ [0]) := by
  unfold Lib.byteCells
  rw [← List.set_append_left _ _ h, List.map_set]
theorem byteCells_last (L : List UInt8) (q : Nat) (v : UInt8) (h : L.length = q) : (Lib.byteCells (L ++ [v]))[q]? = some (.int .u8 (v.toNat : Int)) := by
  unfold Lib.byteCells
  rw [List.getElem?_map, List.getElem?_append_right (by omega), h]
  simp
theorem byteCells_put (L : List UInt8) (q : Nat) (v u : UInt8) (h : L.length = q) : (Lib.byteCells (L ++ [v])).set q (.int .u8 (u.toNat : Int)) = Lib.byteCells (L ++ [u]) := by
  unfold Lib.byteCells
  rw [← h, List.map_append, List.map_append, List.set_append_right _ _ (by simp)]
  simp
theorem or_form (c : UInt8) (r : Nat) (h : r < 8) : Go.bits .or .u8 (c.toNat : Int) (2 ^ r % 256) = ((orB c r).toNat : Int) := by
  have h2 : (2 : Nat) ^ r < 2 ^ 8 := Nat.pow_lt_pow_right (by omega) h
  have e : ((2 : Int) ^ r % 256) = ((2 ^ r : Nat) : Int) := by
    have : ((2 : Int) ^ r) = ((2 ^ r : Nat) : Int) := by simp
    rw [this]
    generalize (2 : Nat) ^ r = z at h2
    omega
  have hc := c.toNat_lt
  rw [e, u8_or_nat _ _ (by omega) (by omega), orB_nat _ _ h]
theorem conv_own9 {w : World} {B : Nat} {v : Value} {l : List UInt8} {n : Nat} (h : w.ownsRow B 5 1 v n (Lib.byteCells l)) (hn : n = l.length) :
    (convert 78 9 v).run Tryz.prog w = .ok (.string ⟨l.toArray⟩) w := by
  subst hn
  rcases h.2 with ⟨rfl, h0⟩ | ⟨g, cap, cur, rfl, -, -, -, -, -, -⟩
  · have hl : l = [] := List.eq_nil_of_length_eq_zero h0
    subst hl
    rw [Lib.run_convert_nil_bytes w 78 9 5 0 Tryz.underlying78 Tryz.underlying5 Tryz.underlying9]
  · exact run_convert_bytes_back (P := Tryz.prog) w 78 9 5 ⟨g, 0, none⟩ cap l Tryz.underlying78 Tryz.underlying5 Tryz.underlying9 (fun j hj => h.cells (g := g) rfl j _ (by simp [Lib.byteCells, hj]))
theorem ginfoByte : (Tryz.prog.info? 5).map (fun i => (i.zero, i.size, i.bytes)) = some (some (.int .u8 0), 1, 1) := by kernel_rfl
set_option maxRecDepth 100000 in
set_option maxHeartbeats 4000000 in
theorem make_rows (bits p : Nat) (b off cap : Nat) (ss : List ByteArray) (w : World) (h1 : 1 ≤ bits) (h2 : bits ≤ 64) (h3 : 1 ≤ p) (h4 : p ≤ 20) (hn : ss.length ≤ 1000) (hss : ∀ s ∈ ss, s.size ≤ maxLen) (hb : b < w.heap.size) (hc : ∀ i (h : i < ss.length), w.cell? ⟨b, off + i, none⟩ = some (.string ss[i])) :
    Calls Tryz.prog 44 #[.int .i64 bits, .int .i64 p, .slice (some ⟨b, off, none⟩) ss.length cap] w fun e w' => e = .returned (.tuple #[.string ⟨(mkB bits p ss).toArray⟩, .int .i64 0]) ∧ Below w.heap.size w w' := by
  obtain ⟨i0, hi, hz0, hz1, hz2⟩ := info_parts ginfoByte
  have HC := Lib.hid hc
  have HSS := Lib.hid hss
  clear hc hss
  obtain ⟨m, hm⟩ : ∃ m, bits * ss.length = m := ⟨_, rfl⟩
  have hm2 : m ≤ 64000 := by rw [← hm]; exact Nat.mul_le_mul h2 hn
  obtain ⟨N, hN⟩ : ∃ N, max m 64 = N := ⟨_, rfl⟩
  have hN2 : N ≤ 64000 := by omega
  obtain ⟨sz, hsz⟩ : ∃ sz, (N + 7) / 8 = sz := ⟨_, rfl⟩
  have hsz8 : 8 ≤ sz := by omega
  have hszm : sz ≤ 8001 := by omega
  have HZ : Hid (szB bits ss.length = sz) := by show _ = _; unfold szB; rw [hm, hN, hsz]
  have hmul : (bits : Int) * (ss.length : Int) = (m : Int) := by rw [← hm]; simp
  have hmax : max (m : Int) 64 = (N : Int) := by omega
  have hdiv : ((N : Int) + 7) / 8 = (sz : Int) := by omega
  clear hm hN
  refine (callsIn_wide (n := 5)).1 ?_
  refine callsIn_of_wp_marks Tryz.func44 rfl trivial ?_ rfl
  simp only [Tryz.ntmps44, List.size_toArray, List.length_cons, List.length_nil, Nat.reduceAdd, Nat.reduceSub, Array.replicate_succ, Array.replicate_zero, List.push_toArray, List.append_toArray, List.nil_append, List.cons_append]
  refine wpIn_wide.2 ?_
  go_upto_region 3 with fail
  go_cut [8] from 28 to 32 (fun v w' => v = .int .i64 N ∧ w = w')
  case first =>
    go_wp2
    all_goals (go_meet; exact ⟨by congr 1; omega, rfl⟩)
  case rest =>
    obtain ⟨rfl, rfl⟩ := hcut
    obtain ⟨sz1, hs1⟩ : ∃ sz1, sz + 1 = sz1 := ⟨_, rfl⟩
    have hs1i : (sz : Int) + 1 = (sz1 : Int) := by omega
    go_wp2_with (at_make; refine wpList_make_full _ rfl _ _ 78 rfl w.heap.size 5 i0 (.int .u8 0) 1 Tryz.underlying78 hi hz0 hz1 .i64 .i64 _ _ sz1 rfl rfl ?hL ?hC ?b2 ?b3 ?b4 ?_)
    case hL => omega
    case hC => omega
    case b2 => rw [hz2]; omega
    case b3 => unfold maxLen; omega
    case b4 => exact Nat.le_refl _
    intro w1 hown hgrow
    have hb1 : Below w.heap.size w w1 := (Below.refl _ _).grown hgrow (Nat.le_refl _) (fun k hk => by cases hk)
    have hown1 : w1.ownsRow w.heap.size 5 1 (.slice (some ⟨w.heap.size, 0, none⟩) sz1 sz1) sz1 (Lib.byteCells (fill (sz * 8) p [] (List.replicate sz 0) ++ [0])) := by
      have e : (madeCells #[Value.int .u8 0] sz1).toList = Lib.byteCells (fill (sz * 8) p [] (List.replicate sz 0) ++ [0]) := by
        rw [toList_madeCells_one, ← hs1]
        unfold fill Lib.byteCells
        rw [List.foldl_nil, ← List.replicate_succ', List.map_replicate]
        rfl
      rw [← e]
      exact hown
    have hs2 := hb1.size
    have HO := Lib.hid hown1
    clear hown hown1 hgrow
    go_wp2
    have hst0 : St9 w p sz sz1 w1.heap.size (ss.take 0) [] (w1.alloc (.cells #[.slice (some ⟨w.heap.size, 0, none⟩) sz1 sz1] 78)) :=
      ⟨Boxed.new _ _ _, HO.out.alloc _, fun D hD => (by cases hD), List.nodup_nil, hb1.alloc hs2 _⟩
    refine (wpIn_wide (n := 5)).1 ?_
    refine wpIn_loop (fun a' W => ∃ (k : Nat) (Ds : List Nat), Fr9 p sz w1.heap.size b off ss.length cap k (Ds.map fun D => ({ target := .collected D, args := #[] } : Deferred)) a' ∧ k ≤ ss.length ∧ St9 w p sz sz1 w1.heap.size (ss.take k) Ds W) (fun a' _ => ss.length - (intOf (a'.tmps.getD 43 undef)).toNat) ?start ?round
    case start => exact ⟨0, [], fr9_of rfl rfl rfl rfl rfl rfl, Nat.zero_le _, hst0⟩
    case round =>
      rintro a' wr ⟨k, Ds, ⟨u, rfl⟩, hk, hst⟩
      obtain ⟨ds, hds⟩ : ∃ ds, (Ds.map fun D => ({ target := .collected D, args := #[] } : Deferred)) = ds := ⟨_, rfl⟩
      rw [hds]
      have HDS := Lib.hid hds
      clear hds
      by_cases hlt : k < ss.length
      · have hcx : wr.cell? ⟨b, off + k, none⟩ = some (.string ss[k]) := (hst.below.cell (p := ⟨b, off + k, none⟩) hb).trans (HC.out k hlt)
        have hks : ss[k].size ≤ 9223372036854775807 := by have := HSS.out _ (List.getElem_mem hlt); unfold maxLen at this; omega
        have HSN : Hid (ss.take (k + 1) = ss.take k ++ [ss[k]]) := List.take_succ_eq_append_getElem hlt
        generalize ss[k] = key at hcx hks HSN
        have CP := Lib.hid (fun (W : World) => places_in 4 key p sz W)
        gi_wp2_with (refine ⟨trivial, ?_⟩; gi_at_call 78; refine (CP.out _).mono ?_; rintro e w' ⟨rfl, rfl⟩)
        clear CP
        obtain ⟨W0, hW0⟩ : ∃ W0, ((wr.alloc (.cells #[.string key] 9)).alloc (.cells #[.int .i64 p] 3)).alloc (.cells #[.int .i64 sz] 3) = W0 := ⟨_, rfl⟩
        rw [hW0]
        have cz : W0.cell? ⟨wr.heap.size + 1 + 1, 0, none⟩ = some (.int .i64 sz) := by rw [← hW0]; have := (Boxed.new ((wr.alloc (.cells #[.string key] 9)).alloc (.cells #[.int .i64 p] 3)) 3 (.int .i64 sz)).cell; simpa using this
        have cp : W0.cell? ⟨wr.heap.size + 1, 0, none⟩ = some (.int .i64 p) := by rw [← hW0]; have := ((Boxed.new (wr.alloc (.cells #[.string key] 9)) 3 (.int .i64 p)).alloc (.cells #[.int .i64 sz] 3)).cell; simpa using this
        have ck : W0.cell? ⟨wr.heap.size, 0, none⟩ = some (.string key) := by rw [← hW0]; exact (((Boxed.new wr 9 (.string key)).alloc (.cells #[.int .i64 p] 3)).alloc (.cells #[.int .i64 sz] 3)).cell
        have hs0 : W0.heap.size = wr.heap.size + 3 := by rw [← hW0]; simp
        have hsw := hst.below.size
        have hst2 : St9 w p sz sz1 w1.heap.size (ss.take k) Ds W0 := by rw [← hW0]; exact ((hst.alloc _).alloc _).alloc _
        clear hW0 hst
        refine wpIn_rangeFunc_ownF rfl (by omega) (gf := 114) (lb := #[.pointer (some ⟨wr.heap.size + 1 + 1, 0, none⟩), .pointer (some ⟨wr.heap.size, 0, none⟩), .pointer (some ⟨wr.heap.size + 1, 0, none⟩)]) rfl trivial (enters_of Tryz.func114 (by kernel_rfl) rfl)
          (places_stops 4 (by omega) _ _ _ w.heap.size key hks p sz h4 (by omega) (by omega) W0 cz ck cp (by omega) (by omega) (by omega)) belowK_t (belowK_b (by omega)) (Below.refl _ _) (fun _ => rfl)
          (fun pre W => (∃ v, Boxed W w1.heap.size 78 v ∧ W.ownsRow w.heap.size 5 1 v sz1 (Lib.byteCells (setAll (fill (sz * 8) p (ss.take k) (List.replicate sz 0)) (pre.map (·.1)) ++ [0])) ∧ v = .slice (some ⟨w.heap.size, 0, none⟩) sz1 sz1) ∧ (∀ D ∈ Ds, W.heap[D]? = some (.deferred (some []))) ∧ Below w.heap.size w W)
          (fun _ _ _ => False)
          (OwnFrom.and (Own.from (holdsRow_own _ _ _ _ _ (fun _ => sz1) (fun pre : List { x : Nat // x < sz * 8 } => Lib.byteCells (setAll (fill (sz * 8) p (ss.take k) (List.replicate sz 0)) (pre.map (·.1)) ++ [0])) (fun _ v => v = .slice (some ⟨w.heap.size, 0, none⟩) sz1 sz1)) _) (OwnFrom.and (own_marks _ _ (fun D hD => (hst2.marks D hD).2.1)) (ownFrom_below (Nat.le_refl _) (by omega))))
          (fun _ _ _ _ _ hs _ _ => hs)
          ⟨⟨_, hst2.box, hst2.row, rfl⟩, fun D hD => (hst2.marks D hD).2.2, hst2.below⟩
          (fun x => { tmps := (u 0 :: (.int .i64 (p : Int) : Value) :: u 2 :: u 3 :: u 4 :: u 5 :: u 6 :: u 7 :: u 8 :: (.int .i64 (sz : Int) : Value) :: (.pointer (some ⟨w1.heap.size, 0, none⟩) : Value) :: u 11 :: (.string key : Value) :: (.int .u64 (x.1 : Nat) : Value) :: u 14 :: u 15 :: u 16 :: u 17 :: u 18 :: u 19 :: u 20 :: u 21 :: u 22 :: u 23 :: u 24 :: u 25 :: u 26 :: u 27 :: u 28 :: u 29 :: u 30 :: u 31 :: u 32 :: u 33 :: u 34 :: u 35 :: u 36 :: u 37 :: u 38 :: u 39 :: u 40 :: (.slice (some ⟨b, off, none⟩) ss.length cap : Value) :: (.int .i64 (ss.length : Int) : Value) :: (.int .i64 (k : Int) : Value) :: (.bool true : Value) :: (.pointer (some ⟨b, off + k, none⟩) : Value) :: (.string key : Value) :: (.string key : Value) :: (.int .i64 (p : Int) : Value) :: (.int .i64 (sz : Int) : Value) :: (.func (.func 114) #[] #[.pointer (some ⟨wr.heap.size + 1 + 1, 0, none⟩), .pointer (some ⟨wr.heap.size, 0, none⟩), .pointer (some ⟨wr.heap.size + 1, 0, none⟩)] : Value) :: (.int .u64 (x.1 : Nat) : Value) :: u 52 :: u 53 :: u 54 :: u 55 :: u 56 :: u 57 :: u 58 :: u 59 :: u 60 :: u 61 :: u 62 :: u 63 :: u 64 :: u 65 :: u 66 :: u 67 :: u 68 :: u 69 :: []).toArray, defers := [] }) ?assign ?body ?done ?stop
        case assign =>
          intro l x W K hK
          gi_wp2
          exact hK
        case body =>
          rintro l pre ⟨x, hx⟩ W ⟨⟨_, hbox, hrow, rfl⟩, hmk, hB⟩ _
          have cb := hbox.cell
          obtain ⟨L, hL⟩ : ∃ L, setAll (fill (sz * 8) p (ss.take k) (List.replicate sz 0)) (pre.map (·.1)) = L := ⟨_, rfl⟩
          have hLl : L.length = sz := by rw [← hL, setAll_len, fill_len, List.length_replicate]
          have HSA : Hid (setAll (fill (sz * 8) p (ss.take k) (List.replicate sz 0)) ((pre ++ [(⟨x, hx⟩ : { x : Nat // x < sz * 8 })]).map (·.1)) = setBit L x) := by
            show _ = _
            rw [List.map_append, List.map_cons, List.map_nil, setAll_snoc, hL]
          rw [hL] at hrow
          clear hL
          obtain ⟨q, hq⟩ : ∃ q, x / 8 = q := ⟨_, rfl⟩
          obtain ⟨r, hr⟩ : ∃ r, x % 8 = r := ⟨_, rfl⟩
          have hqi : (x : Int) / 8 = (q : Int) := by omega
          have hri : Go.bits .and .u64 (x : Int) 7 = (r : Int) := by rw [and7_form x (by omega), hr]
          have hq2 : q < sz1 := by omega
          have hcell : W.cell? ⟨w.heap.size, q, none⟩ = some (.int .u8 ((gbyteAt L q).toNat : Int)) := by
            rw [hrow.cellAt q (by omega), byteCells_left L q (by omega)]
          have hfz : W.frozen? ⟨w.heap.size, q, none⟩ = false := hrow.frozenAt q
          have hst3 := Lib.hid (hrow.stored q (.int .u8 ((orB (gbyteAt L q) r).toNat : Int)))
          obtain ⟨cc, hcc⟩ : ∃ cc, gbyteAt L q = cc := ⟨_, rfl⟩
          rw [hcc] at hcell hst3
          have HSB : Hid ((Lib.byteCells (L ++ [0])).set q (.int .u8 ((orB cc r).toNat : Int)) = Lib.byteCells (setBit L x ++ [0])) := by
            show _ = _
            unfold setBit
            rw [hq, hr, hcc]
            exact byteCells_set L q _ (by omega)
          have HF := Lib.hid (or_form cc r (by omega))
          have hne : some w1.heap.size ≠ some w.heap.size := hbox.not_row (by decide) hrow
          clear hcc
          gi_wp2
          rw [HF.out]
          refine ⟨KeepsOthers.setCell _ _ _, (Below.refl w.heap.size W).setCell (p := ⟨w.heap.size, q, none⟩) (Nat.le_refl _) _, ⟨_, hbox.kept hst3.out.2 hne, ?_, rfl⟩, fun D hD => (KeepsOthers.setCell W ⟨w.heap.size, q, none⟩ _).same D _ (hmk D hD) rfl, hB.setCell (p := ⟨w.heap.size, q, none⟩) (Nat.le_refl _) _⟩
          rw [HSA.out, ← HSB.out]
          exact hst3.out.1
        case done =>
          rintro D ys W hD hS ⟨⟨_, hbox, hrow, rfl⟩, hmk, hB⟩ hK
          have hst4 : St9 w p sz sz1 w1.heap.size (ss.take (k + 1)) (D :: Ds) W := by
            refine ⟨hbox, ?_, ?_, ?_, hB⟩
            · rw [HSN.out, fill_snoc, ← hS]
              exact hrow
            · intro D' hD'
              rcases List.mem_cons.1 hD' with rfl | hD'
              · exact ⟨by omega, (Array.getElem?_eq_some_iff.1 hK).1, hK⟩
              · exact ⟨(hst2.marks D' hD').1, (Array.getElem?_eq_some_iff.1 (hmk D' hD')).1, hmk D' hD'⟩
            · refine List.nodup_cons.2 ⟨fun hin => ?_, hst2.nodup⟩
              have := (hst2.marks D hin).2.1
              omega
          have HST := Lib.hid hst4
          clear hst4 hst2 hbox hrow hmk hB hK cz cp ck
          gi_wp2
          refine ⟨⟨k + 1, D :: Ds, ?_, by omega, HST.out⟩, ?_⟩
          · rw [List.map_cons, HDS.out]
            exact fr9_of rfl rfl rfl rfl rfl (by go_num)
          · simp [intOf]
            omega
        case stop =>
          rintro D c pre W _ _ h _
          exact h.elim
      · obtain rfl : k = ss.length := by omega
        have hbox := hst.box
        have hrow := hst.row
        rw [List.take_length] at hrow
        have cb := hbox.cell
        obtain ⟨L, hL⟩ : ∃ L, fill (sz * 8) p ss (List.replicate sz 0) = L := ⟨_, rfl⟩
        have hLl : L.length = sz := by rw [← hL, fill_len, List.length_replicate]
        have HMK : Hid (mkB bits p ss = L ++ [UInt8.ofNat p]) := by
          show _ = _
          unfold mkB
          rw [HZ.out, hL]
        rw [hL] at hrow
        have hcell : wr.cell? ⟨w.heap.size, sz, none⟩ = some (.int .u8 0) := by
          rw [hrow.cellAt sz (by omega), byteCells_last L sz 0 hLl]
          rfl
        have hfz : wr.frozen? ⟨w.heap.size, sz, none⟩ = false := hrow.frozenAt sz
        have hst3 := hrow.stored sz (.int .u8 ((UInt8.ofNat p).toNat : Int))
        have e8 : (UInt8.ofNat p).toNat = p := by rw [UInt8.toNat_ofNat']; exact Nat.mod_eq_of_lt (by omega)
        have hpm : (p : Int) % 256 = (p : Int) := by omega
        have hne : some w1.heap.size ≠ some w.heap.size := hbox.not_row (by decide) hrow
        rw [byteCells_put L sz 0 _ hLl] at hst3
        rw [e8] at hst3
        have cb2 := (hbox.kept hst3.2 hne).cell
        have HCV := Lib.hid (conv_own9 hst3.1 (by rw [List.length_append, hLl, List.length_singleton]; omega))
        have hB2 : Below w.heap.size w (wr.setCell ⟨w.heap.size, sz, none⟩ (.int .u8 (p : Int))) := hst.below.setCell (p := ⟨w.heap.size, sz, none⟩) (Nat.le_refl _) _
        have HMR : Hid (∀ D ∈ Ds, w.heap.size ≤ D ∧ (wr.setCell ⟨w.heap.size, sz, none⟩ (.int .u8 (p : Int))).heap[D]? = some (.deferred (some []))) := fun D hD => ⟨(hst.marks D hD).1, (KeepsOthers.setCell wr ⟨w.heap.size, sz, none⟩ _).same D _ (hst.marks D hD).2.2 rfl⟩
        have HB2 := Lib.hid hB2
        have HND := Lib.hid hst.nodup
        clear hst hbox hrow hst3 hB2
        have hcvw := HCV.out
        gi_wp2
        go_wp2
        rw [← HDS.out]
        refine leaves_marks w.heap.size Ds _ HND.out HB2.out.size HMR.out (fun W' hW' => ?_)
        refine ⟨.tuple #[.string ⟨(L ++ [UInt8.ofNat p]).toArray⟩, .int .i64 0], ?_, by rw [HMK.out], HB2.out.trans hW'⟩
        simp [results, Tryz.f44, go_sem]
set_option maxRecDepth 100000 in
theorem make_none (bits p : Nat) (a : Option Addr) (cap : Nat) (w : World) (h1 : 1 ≤ bits) (h2 : bits ≤ 64) (h3 : 1 ≤ p) (h4 : p ≤ 20) :
    Calls Tryz.prog 44 #[.int .i64 bits, .int .i64 p, .slice a 0 cap] w fun e w' => e = .returned (.tuple #[.string ⟨(mkB bits p []).toArray⟩, .int .i64 0]) ∧ Below w.heap.size w w' := by
  obtain ⟨i0, hi, hz0, hz1, hz2⟩ := info_parts ginfoByte
  have HMK : Hid (mkB bits p [] = List.replicate 8 0 ++ [UInt8.ofNat p]) := by
    show _ = _
    unfold mkB
    rw [show szB bits ([] : List ByteArray).length = 8 from by unfold szB; simp]
    rfl
  go_enter Tryz.func44, Tryz.ntmps44
  go_wp2_with (at_make; refine wpList_make_full _ rfl _ _ 78 rfl w.heap.size 5 i0 (.int .u8 0) 1 Tryz.underlying78 hi hz0 hz1 .i64 .i64 _ _ 9 rfl rfl ?hL ?hC ?b2 ?b3 ?b4 ?_)
  case hL => rfl
  case hC => rfl
  case b2 => rw [hz2]; omega
  case b3 => unfold maxLen; omega
  case b4 => exact Nat.le_refl _
  intro w1 hown hgrow
  have hb1 : Below w.heap.size w w1 := (Below.refl _ _).grown hgrow (Nat.le_refl _) (fun k hk => by cases hk)
  have hown1 : w1.ownsRow w.heap.size 5 1 (.slice (some ⟨w.heap.size, 0, none⟩) 9 9) 9 (Lib.byteCells (List.replicate 8 0 ++ [0])) := by
    rw [toList_madeCells_one] at hown
    exact hown
  have hs2 := hb1.size
  clear hown hgrow
  have hbox := Boxed.new w1 78 (.slice (some ⟨w.heap.size, 0, none⟩) 9 9)
  have hrow := hown1.alloc (.cells #[.slice (some ⟨w.heap.size, 0, none⟩) 9 9] 78)
  have hB := hb1.alloc hs2 (.cells #[.slice (some ⟨w.heap.size, 0, none⟩) 9 9] 78)
  clear hown1 hb1
  have hcell := hrow.cellAt 8 (by omega)
  rw [byteCells_last (List.replicate 8 0) 8 0 (by simp)] at hcell
  have hfz := hrow.frozenAt 8
  have hst3 := hrow.stored 8 (.int .u8 ((UInt8.ofNat p).toNat : Int))
  have e8 : (UInt8.ofNat p).toNat = p := by rw [UInt8.toNat_ofNat']; exact Nat.mod_eq_of_lt (by omega)
  have hpm : (p : Int) % 256 = (p : Int) := by omega
  have hne : some w1.heap.size ≠ some w.heap.size := hbox.not_row (by decide) hrow
  rw [byteCells_put (List.replicate 8 0) 8 0 _ (by simp)] at hst3
  rw [e8] at hst3
  have cb2 := (hbox.kept hst3.2 hne).cell
  have hcvw := conv_own9 hst3.1 (by simp)
  have HB2 := Lib.hid (hB.setCell (p := ⟨w.heap.size, 8, none⟩) (Nat.le_refl _) (.int .u8 (p : Int)))
  obtain ⟨RS, hRS⟩ : ∃ RS : ByteArray, (⟨(List.replicate 8 0 ++ [UInt8.ofNat p]).toArray⟩ : ByteArray) = RS := ⟨_, rfl⟩
  rw [hRS] at hcvw
  have HRS := Lib.hid hRS
  clear hst3 hrow hB hRS
  have cb := hbox.cell
  clear hbox
  go_wp2
  refine wp_loop_rounds 1 ?_
  rw [rounds_succ]
  go_wp2
  go_ret2
  exact ⟨by rw [HMK.out, HRS.out]; rfl, HB2.out⟩
/-- Make, of keys that came in. -/
theorem make_any (bits p : Nat) (a : Option Addr) (len cap : Nat) (ss : List ByteArray) (w : World) (h1 : 1 ≤ bits) (h2 : bits ≤ 64) (h3 : 1 ≤ p) (h4 : p ≤ 20) (hn : ss.length ≤ 1000) (h : IsRowS w a len ss) :
    Calls Tryz.prog 44 #[.int .i64 bits, .int .i64 p, .slice a len cap] w fun e w' => e = .returned (.tuple #[.string ⟨(mkB bits p ss).toArray⟩, .int .i64 0]) ∧ Below w.heap.size w w' := by
  obtain ⟨rfl, hss, hrow⟩ := h
  rcases hrow with h0 | ⟨b, off, rfl, hb, hc⟩
  · obtain rfl := List.eq_nil_of_length_eq_zero h0
    exact make_none bits p a cap w h1 h2 h3 h4
  · exact make_rows bits p b off cap ss w h1 h2 h3 h4 hn hss hb hc
end Go.Proofs.YtmnboiikopkaoaaGreat
