/- wal's Replay, of frames of batches. -/
import Derived.Test.YtlgcbapgbpofoaaGreatWG
import Derived.Test.YtlgcbapgbpofoaaGreatWI
import Derived.Test.YtlgcbapgbpofoaaGreatXS4
namespace Go.Proofs.YtlgcbapgbpofoaaGreat
open Go.RowKit

structure Bat where
  f : Nat
  ws : List Wr
instance : Inhabited Bat := ⟨⟨0, []⟩⟩
def Bat.bytes (b : Bat) : List UInt8 := putB b.f b.ws
def Bat.Ok (b : Bat) : Prop := b.f < 18446744073709551616 ∧ b.ws.length ≤ 1000 ∧ sizeWs b.ws ≤ 1000000 ∧ wrsOk b.ws = true
/-- The cells of batches, whose writes lie at these blocks. -/
def batCells : List Bat → List (Nat × Nat) → List Value
  | b :: bs, g :: gs => .int .u64 (b.f : Int) :: .slice (some ⟨g.1, 0, none⟩) b.ws.length g.2 :: batCells bs gs
  | _, _ => []
theorem batCells_length : ∀ (bs : List Bat) (gs : List (Nat × Nat)), gs.length = bs.length → (batCells bs gs).length = bs.length * 2
  | [], [], _ => rfl
  | b :: bs, g :: gs, h => by
    have := batCells_length bs gs (by simpa using h)
    simp only [batCells, List.length_cons, this]
    omega
theorem batCells_snoc : ∀ (bs : List Bat) (gs : List (Nat × Nat)) (b : Bat) (g : Nat × Nat), gs.length = bs.length → batCells (bs ++ [b]) (gs ++ [g]) = batCells bs gs ++ [.int .u64 (b.f : Int), .slice (some ⟨g.1, 0, none⟩) b.ws.length g.2]
  | [], [], _, _, _ => rfl
  | b :: bs, g :: gs, b', g', h => by
    have := batCells_snoc bs gs b' g' (by simpa using h)
    simp only [List.cons_append, batCells, this]
theorem batCells_get : ∀ (bs : List Bat) (gs : List (Nat × Nat)) (i : Nat) (h : i < bs.length) (hg : i < gs.length), (batCells bs gs)[i * 2]? = some (.int .u64 (bs[i].f : Int)) ∧ (batCells bs gs)[i * 2 + 1]? = some (.slice (some ⟨gs[i].1, 0, none⟩) bs[i].ws.length gs[i].2)
  | b :: bs, g :: gs, 0, _, _ => ⟨rfl, rfl⟩
  | b :: bs, g :: gs, i + 1, h, hg => by
    have := batCells_get bs gs i (by simpa using h) (by simpa using hg)
    rw [show (i + 1) * 2 = i * 2 + 1 + 1 by omega]
    exact this
/-- Batches that were replayed: a row of them, each one's writes in a block beside it. -/
structure Bats (w0 w : World) (V : Value) (bs : List Bat) (gs : List (Nat × Nat)) : Prop where
  len : gs.length = bs.length
  row : Row w 48 2 V bs.length (batCells bs gs)
  own : ∀ k, ob V = some k → w0.heap.size ≤ k
  wrs : ∀ i (h : i < bs.length) (hg : i < gs.length), WrsAt w.heap.size w (some ⟨gs[i].1, 0, none⟩) bs[i].ws.length bs[i].ws ∧ (w0.heap.size ≤ gs[i].1 ∧ gs[i].1 < w.heap.size) ∧ ob V ≠ some gs[i].1
  bel : Below w0.heap.size w0 w
theorem Bats.below {w0 w w' : World} {V : Value} {bs : List Bat} {gs : List (Nat × Nat)} (h : Bats w0 w V bs gs) (hb : Below w.heap.size w w') : Bats w0 w' V bs gs :=
  ⟨h.len, h.row.kept (fun k hk => hb.block k (h.row.lt k hk)), h.own, fun i hi hg => by
    obtain ⟨a, b, c⟩ := h.wrs i hi hg
    exact ⟨a.grown hb, ⟨b.1, Nat.lt_of_lt_of_le b.2 hb.size⟩, c⟩, h.bel.trans (hb.mono h.bel.size)⟩
theorem WrsAt.kept {w w' : World} {g len : Nat} {ws : List Wr} (h : WrsAt w.heap.size w (some ⟨g, 0, none⟩) len ws) (hk : w'.heap[g]? = w.heap[g]?) (hs : w.heap.size ≤ w'.heap.size) : WrsAt w'.heap.size w' (some ⟨g, 0, none⟩) len ws := by
  refine ⟨h.1, ?_⟩
  rcases h.2 with h0 | ⟨b, off, e, hlt, hc⟩
  · exact .inl h0
  · simp only [Option.some.injEq, Addr.mk.injEq] at e
    obtain ⟨rfl, rfl, -⟩ := e
    exact .inr ⟨g, 0, rfl, Nat.lt_of_lt_of_le hlt hs, fun i hi j u hu => (World.cell?_of_block hk).trans (hc i hi j u hu)⟩
/-- Behind the append of one more. -/
theorem Bats.more {w0 w w5 : World} {V v' : Value} {bs : List Bat} {gs : List (Nat × Nat)} {b : Bat} {g cap : Nat} (h : Bats w0 w V bs gs) (hw : WrsAt w.heap.size w (some ⟨g, 0, none⟩) b.ws.length b.ws) (hg0 : w0.heap.size ≤ g) (hgl : g < w.heap.size) (hgV : ob V ≠ some g)
    (hrow : Row w5 48 2 v' (bs.length + 1) (batCells bs gs ++ [.int .u64 (b.f : Int), .slice (some ⟨g, 0, none⟩) b.ws.length cap])) (hgr : w.grownBy w5 (ob V)) (hob : ob v' = ob V ∨ (ob v' = some w.heap.size ∧ w.grownBy w5 none)) : Bats w0 w5 v' (bs ++ [b]) (gs ++ [(g, cap)]) := by
  have kp : ∀ k, k < w.heap.size → ob V ≠ some k → w5.heap[k]? = w.heap[k]? := fun k hk hne => hgr.block k hk (fun e => hne e.symm)
  have nw : ∀ k, k < w.heap.size → ob V ≠ some k → ob v' ≠ some k := fun k hk hne => by
    rcases hob with e | ⟨e, -⟩
    · rw [e]; exact hne
    · rw [e]; intro h'; have := Option.some.inj h'; omega
  refine ⟨by simp [h.len], by rw [List.length_append, batCells_snoc _ _ _ _ h.len]; exact hrow, fun k hk => ?_, fun i hi hg => ?_, ?_⟩
  · rcases hob with e | ⟨e, -⟩
    · exact h.own k (by rw [← e]; exact hk)
    · rw [e] at hk
      have := Option.some.inj hk
      have := h.bel.size
      omega
  · by_cases hlt : i < bs.length
    · have hlg : i < gs.length := by rw [h.len]; exact hlt
      rw [List.getElem_append_left hlt, List.getElem_append_left hlg]
      obtain ⟨a, c, d⟩ := h.wrs i hlt hlg
      exact ⟨a.kept (kp _ c.2 d) hgr.size, ⟨c.1, Nat.lt_of_lt_of_le c.2 hgr.size⟩, nw _ c.2 d⟩
    · have hie : i = bs.length := by rw [List.length_append, List.length_singleton] at hi; omega
      subst hie
      rw [List.getElem_append_right (Nat.le_refl _), List.getElem_append_right (Nat.le_of_eq h.len)]
      simp only [Nat.sub_self, List.getElem_singleton, h.len]
      exact ⟨hw.kept (kp g hgl hgV) hgr.size, ⟨hg0, Nat.lt_of_lt_of_le hgl hgr.size⟩, nw g hgl hgV⟩
  · exact ⟨hgr.os.trans h.bel.os, hgr.tape.trans h.bel.tape, hgr.output.trans h.bel.output, Nat.le_trans h.bel.size hgr.size, fun k hk => (kp k (Nat.lt_of_lt_of_le hk h.bel.size) (fun e => by have := h.own k e; omega)).trans (h.bel.block k hk)⟩
theorem infoBat : (Tryz.prog.info? 48).map (fun i => (i.zero, i.size, i.bytes)) = some (some (.agg #[.int .u64 0, .slice none 0 0]), 2, 32) := by kernel_rfl
theorem bats_nil (w : World) : Bats w w (.slice none 0 0) [] [] := ⟨rfl, row_nil _ _ _, fun k hk => by simp [ob] at hk, fun i h => absurd h (Nat.not_lt_zero _), Below.refl _ _⟩
/-- The texts that were scanned, read. -/
theorem rowT_cells {B : Nat} {w : World} {v : Value} {ts : List (List UInt8)} (h : (rowT v ts).ok B w) : ∃ a cap, v = .slice a ts.length cap ∧ (ts.length = 0 ∨ ∃ g, a = some ⟨g, 0, none⟩ ∧ g < w.heap.size ∧ ∀ j (hj : j < ts.length), w.cell? ⟨g, j, none⟩ = some (.string ⟨ts[j].toArray⟩)) := by
  rcases h.slice with ⟨e, h0, -⟩ | ⟨g, cap, e, ho, -, hlt, -⟩
  · have h0' : ts.length = 0 := h0
    exact ⟨none, 0, by rw [h0']; exact e, .inl h0'⟩
  · refine ⟨_, cap, e, .inr ⟨g, rfl, hlt, fun j hj => h.cell ho j _ ?_⟩⟩
    show (ts.map fun t => Value.string ⟨t.toArray⟩)[j]? = _
    rw [List.getElem?_map, List.getElem?_eq_getElem hj]
    rfl
section
variable {F : Nat → Prop} {B p n m : Nat} {s : St} {w : World}
set_option maxHeartbeats 2000000 in
set_option maxRecDepth 100000 in
theorem replay_err (h : Hs F B p n m s w) (num : Nat) (hn : num < 100000000) (he : (s.read (nameB num)).2 ≠ 0) :
    Calls Tryz.prog 35 #[.pointer (some ⟨p, 0, none⟩), .int .i64 (num : Int)] w fun e w' => e = .returned (.tuple #[.slice none 0 0, .int .i64 (s.read (nameB num)).2]) ∧ Below w.heap.size w w' := by
  have hmod : (num : Int) % 100000000 = (num : Int) := by omega
  have CNM := Lib.hid (fun W => name_any (num : Int) W (by omega) (by omega))
  rw [hmod, Int.toNat_natCast] at CNM
  obtain ⟨NM, hNM⟩ : ∃ NM : ByteArray, (⟨(nameB num).toArray⟩ : ByteArray) = NM := ⟨_, rfl⟩
  have hNs : NM.size ≤ maxLen := by rw [← hNM]; exact name_size num
  have hNl : NM.data.toList = nameB num := by rw [← hNM]
  rw [hNM] at CNM
  have CR := Lib.hid (fun W (h : Hs F B p n m s W) => hs_read h NM hNs)
  rw [hNl] at CR
  unfold readV at CR
  have HH := Lib.hid h
  generalize s.read (nameB num) = R at CR he ⊢
  obtain ⟨c, E⟩ := R
  simp only at CR he ⊢
  have heb : (E != 0) = true := by simpa using he
  clear h hNM hNl hmod
  go_enter Tryz.func35, Tryz.ntmps35
  go_wp2_with (first
    | (go_at_call 19; refine (CNM.out _).mono ?_; rintro _ w1 ⟨rfl, b1⟩)
    | (go_at_call 50; refine (CR.out _ (HH.out.same b1)).mono ?_; rintro _ _ ⟨rfl, rfl⟩))
  refine bodyPost_ret (results_tmp2 rfl _ _ _) rfl ?_
  exact ⟨rfl, b1⟩
set_option maxHeartbeats 4000000 in
set_option maxRecDepth 100000 in
theorem replay_ok (h : Hs F B p n m s w) (num : Nat) (hn : num < 100000000) (c : List UInt8) (hc : c.length ≤ 1000000) (hr : s.read (nameB num) = (c, 0)) (bs : List Bat) (hbl : bs.length ≤ 1000) (hbs : ∀ b ∈ bs, b.Ok) (hsc : (scanF c).1 = bs.map Bat.bytes) :
    Calls Tryz.prog 35 #[.pointer (some ⟨p, 0, none⟩), .int .i64 (num : Int)] w fun e w' => ∃ V gs, e = .returned (.tuple #[V, .int .i64 0]) ∧ Bats w w' V bs gs := by
  obtain ⟨i0, hi, hz0, hzs, hzb⟩ := info_parts infoBat
  have hmod : (num : Int) % 100000000 = (num : Int) := by omega
  have CNM := Lib.hid (fun W => name_any (num : Int) W (by omega) (by omega))
  rw [hmod, Int.toNat_natCast] at CNM
  obtain ⟨NM, hNM⟩ : ∃ NM : ByteArray, (⟨(nameB num).toArray⟩ : ByteArray) = NM := ⟨_, rfl⟩
  have hNs : NM.size ≤ maxLen := by rw [← hNM]; exact name_size num
  have hNl : NM.data.toList = nameB num := by rw [← hNM]
  rw [hNM] at CNM
  have CR := Lib.hid (fun W (h : Hs F B p n m s W) => hs_read h NM hNs)
  rw [hNl, hr] at CR
  unfold readV at CR
  obtain ⟨CT, hCT⟩ : ∃ CT : ByteArray, (⟨c.toArray⟩ : ByteArray) = CT := ⟨_, rfl⟩
  have hCs : CT.size ≤ 1000000 := by rw [← hCT, str_len]; exact hc
  have hCl : CT.data.toList = c := by rw [← hCT]
  simp only [hCT] at CR
  have CS := Lib.hid (fun W => scan_any CT W hCs)
  rw [hCl, hsc] at CS
  have HH := Lib.hid h
  have HBS := Lib.hid hbs
  generalize (((scanF c).2 : Nat) : Int) = Z at CS
  clear h hNM hNl hmod hCT hCl hsc hr hbs
  go_enter Tryz.func35, Tryz.ntmps35
  go_wp2_with (first
    | (go_at_call 19; refine (CNM.out _).mono ?_; rintro _ w1 ⟨rfl, b1⟩)
    | (go_at_call 50; refine (CR.out _ (HH.out.same b1)).mono ?_; rintro _ _ ⟨rfl, rfl⟩)
    | (go_at_call 156; refine (CS.out _).mono ?_; rintro _ w2 ⟨v, rfl, hrw, b2⟩; obtain ⟨av, cv, rfl, hcs⟩ := rowT_cells hrw; rw [List.length_map] at *)
    | fail)
  have HCS := Lib.hid hcs
  have HB2 := Lib.hid (b1.trans (b2.mono b1.size))
  clear hcs hrw b1 b2 CS CR CNM
  go_loopw [10, 32] (fun lv iv wr => ∃ (i : Nat) (gs : List (Nat × Nat)) (V : Value), V = lv ∧ iv = .int .i64 (i : Int) ∧ i ≤ bs.length ∧ Bats w2 wr V (bs.take i) gs) (fun _ iv _ => bs.length - (intOf iv).toNat)
  case atStart => exact ⟨0, [], _, rfl, rfl, Nat.zero_le _, bats_nil w2⟩
  case round =>
    obtain ⟨i, gs, V, rfl, rfl, hi0, hbt⟩ := hrel
    by_cases hlt : i < bs.length
    · obtain ⟨g, rfl, hgl, hq⟩ : ∃ g, av = some ⟨g, 0, none⟩ ∧ g < w2.heap.size ∧ ∀ j (hj : j < bs.length), w2.cell? ⟨g, j, none⟩ = some (.string ⟨bs[j].bytes.toArray⟩) := by
        rcases HCS.out with h0 | ⟨g, e1, e2, e3⟩
        · rw [List.length_map] at h0; omega
        · refine ⟨g, e1, e2, fun j hj => ?_⟩
          have := e3 j (by rw [List.length_map]; exact hj)
          rw [List.getElem_map] at this
          exact this
      have hok := HBS.out bs[i] (List.getElem_mem hlt)
      obtain ⟨⟨ft, ws⟩, hb⟩ : ∃ b, bs[i] = b := ⟨_, rfl⟩
      have q0 := (hbt.bel.cell (p := ⟨g, i, none⟩) hgl).trans (hq i hlt)
      rw [hb] at q0 hok
      obtain ⟨k1, k2, k3, k4⟩ := hok
      simp only [Bat.bytes] at q0 k1 k2 k3 k4
      have CG := Lib.hid (fun W => getBatch_ok ft ws W k1 k2 k3 k4)
      obtain ⟨ST, hST⟩ : ∃ ST : ByteArray, (⟨(putB ft ws).toArray⟩ : ByteArray) = ST := ⟨_, rfl⟩
      rw [hST] at q0 CG
      have hil : (i : Int) < (bs.length : Int) := by omega
      have hti : (bs.take i).length = i := by rw [List.length_take]; omega
      have HB1 := Lib.hid (show (bs.take i).length + 1 ≤ maxLen by rw [hti]; unfold maxLen; omega)
      have HB3 := Lib.hid (show ((bs.take i).length + 1) * 32 ≤ 140737488355328 by rw [hti]; omega)
      have HBT := Lib.hid hbt
      have HTK := Lib.hid (show bs.take (i + 1) = bs.take i ++ [⟨ft, ws⟩] by rw [List.take_succ_eq_append_getElem hlt, hb])
      have HA2 := Lib.hid (show ∀ (w3 : World) (o1 o2 : Obj), Below w3.heap.size w3 ((w3.alloc o1).alloc o2) from fun w3 o1 o2 => by
        have h1 : Below w3.heap.size w3 (w3.alloc o1) := (Below.refl _ _).alloc (Nat.le_refl _) o1
        exact h1.alloc h1.size o2)
      have HBR := Lib.hid (show ∀ (w3 : World) (o1 o2 : Obj), Below wr.heap.size wr w3 → Bats w2 ((w3.alloc o1).alloc o2) V (bs.take i) gs from fun w3 o1 o2 hb => (HBT.out.below hb).below (HA2.out w3 o1 o2))
      have HSr2 := Lib.hid (show ∀ (w3 : World) (o : Obj) (gw cw : Nat), Src Tryz.prog 2 56 (.slice (some ⟨w3.heap.size + 1, 0, none⟩) 1 1) 1 [.int .u64 (ft : Int), .slice (some ⟨gw, 0, none⟩) ws.length cw] ((w3.alloc o).alloc (.cells #[.int .u64 (ft : Int), .slice (some ⟨gw, 0, none⟩) ws.length cw] 48)) from fun w3 o gw cw => by
        have key : ∀ w4 : World, Src Tryz.prog 2 56 (.slice (some ⟨w4.heap.size, 0, none⟩) 1 1) 1 [.int .u64 (ft : Int), .slice (some ⟨gw, 0, none⟩) ws.length cw] (w4.alloc (.cells #[.int .u64 (ft : Int), .slice (some ⟨gw, 0, none⟩) ws.length cw] 48)) := fun w4 => Src.ofSlice (P := Tryz.prog) _ (size := 2) Tryz.underlying56 ⟨w4.heap.size, 0, none⟩ 1 1 _ rfl (fun j u hu => by
          match j, hu with
          | 0, hu => simpa [Addr.add] using hu
          | 1, hu => simpa [Addr.add] using hu) (by simp [Value.oneCell'])
        have := key (w3.alloc o)
        rw [show (w3.alloc o).heap.size = w3.heap.size + 1 by simp] at this
        exact this)
      clear hq hb hST hbt k1 k2 k3 k4
      go_wp2_with (first
        | (go_at_call 14; refine (CG.out _).mono ?_; rintro _ w3 ⟨gw, cw, rfl, hww, hgw, b3⟩)
        | (at_builtin; refine wpList_append_row _ rfl _ _ 56 56 rfl 48 i0 _ 2 32 Tryz.underlying56 hi hz0 hzs hzb rfl V _ _ rfl (HBR.out _ _ _ b3).row _ rfl 1 _ (HSr2.out _ _ _ _) HB1.out HB3.out ?_; intro v' w5 hrow5 hgrow5 hob5)
        | fail)
      have hb5 := (HBR.out _ _ _ b3).more (b := ⟨ft, ws⟩) (g := gw) (cap := cw) (hww.grown (HA2.out _ _ _)) (by have := HBT.out.bel.size; have := hgw.1; omega) (Nat.lt_of_lt_of_le hgw.2 (HA2.out _ _ _).size) (fun e => by have := HBT.out.row.lt gw e; have := hgw.1; omega) hrow5 hgrow5 hob5
      go_roundw
      case rel => exact ⟨i + 1, gs ++ [(gw, cw)], v', rfl, by go_num, by omega, by rw [HTK.out]; exact hb5⟩
      case measure => simp [intOf]; omega
    · obtain rfl : i = bs.length := by omega
      rw [List.take_length] at hbt
      go_wp2
      refine bodyPost_ret (results_tmp2 rfl _ _ _) rfl ?_
      refine ⟨V, gs, rfl, ?_⟩
      have h2 := HB2.out
      exact ⟨hbt.len, hbt.row, fun k hk => by have := hbt.own k hk; have := h2.size; omega, fun j hj hg => by
        obtain ⟨x1, x2, x3⟩ := hbt.wrs j hj hg
        exact ⟨x1, ⟨by have := h2.size; omega, x2.2⟩, x3⟩, h2.trans (hbt.bel.mono h2.size)⟩
end
end Go.Proofs.YtlgcbapgbpofoaaGreat
