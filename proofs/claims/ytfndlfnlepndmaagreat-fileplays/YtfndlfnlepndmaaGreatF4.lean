/- Joined: FI FJ FK FL FN FH. -/
import Derived.Test.YtfndlfnlepndmaaGreatF3
import Derived.Test.YtfndlfnlepndmaaGreatLay
import Derived.Deep.DeepCutAuto
namespace Go.Proofs.YtfndlfnlepndmaaGreat
open Go.RowKit Go.Maps Go.Sort Go.Shelf

/-- slices.Sort's two contracts at this dump, at the fence that asks nothing. -/
theorem sortsIn (m : Nat) : AnyZ.SortsIn Tryz.prog Tryz.sorted121_ren Fence.wide m :=
  ⟨fun blk off cap ss W hH hblk hsz => callsIn_wide.2 (AnyM.slices_Sort_string Tryz.sort161 blk off cap ss W hH hblk hsz),
   fun p cap W => callsIn_wide.2 (AnyM.slices_Sort_string_none Tryz.sort161 p cap W)⟩
theorem keys_any (mb : Option Nat) (W : World) : Calls Tryz.prog 122 #[.map mb] W fun e w' => e = .returned (.func (.func 162) #[] #[.pointer (some ⟨W.heap.size, 0, none⟩)]) ∧ w' = W.alloc (.cells #[.map mb] 67) :=
  (callsIn_wide (n := 5)).1 (AnyZ.keys_in Tryz.keys122 Fence.wide 5 trivial rfl mb W)
set_option maxHeartbeats 1000000 in
theorem sorted_any {H : Type} (b nn : Nat) (D0 : DataW H) (R : Value → Option (DataW H × List MemPlace)) (w : World) (hown : w.ownsMap Tryz.prog 9 R b nn D0) (hmax : Maps.size D0 ≤ maxLen) (hbytes : Maps.size D0 * 16 ≤ 140737488355328) :
    Calls Tryz.prog 121 #[.func (.func 162) #[] #[.pointer (some ⟨w.heap.size, 0, none⟩)]] (w.alloc (.cells #[.map (some b)] 67)) fun e w' => ∃ (v : Value) (ss : List (List UInt8)), e = .returned v ∧ ss.Perm (strKeys D0) ∧
      w'.ownsRow (w.alloc (.cells #[.map (some b)] 67)).heap.size 9 1 v ss.length ((ss.mergeSort (fun x y => decide (x ≤ y))).map encStr) ∧ (v = .slice none 0 0 ↔ ss = []) ∧ Below (w.alloc (.cells #[.map (some b)] 67)).heap.size (w.alloc (.cells #[.map (some b)] 67)) w' := by
  refine (callsIn_wide (n := 5)).1 ?_
  have hbl := hown.lt
  have hseq : SeqGives Fence.wide 2 Tryz.prog 162 #[.pointer (some ⟨w.heap.size, 0, none⟩)] encStr (fun ss => ss.Perm (strKeys D0)) (Maps.size D0) (w.alloc (.cells #[.map (some b)] 67)) :=
    AnyZ.keys_gives (ρ := Tryz.keys122_ren) { Tryz.keys122 with } Fence.wide _ trivial rfl (by omega) w.heap.size b nn D0 _ (by simp) (by simp) (by
      obtain ⟨es, clock, hb, Ft, hs, hD⟩ := hown
      exact ⟨es, clock, (Below.heap_alloc _ _ b hbl).trans hb, Ft, hs, hD⟩)
  exact AnyZ.sorted_in Tryz.sorted121 Fence.wide 5 trivial trivial trivial trivial rfl (by omega) (sortsIn _) (enters_of Tryz.func161 (by kernel_rfl) rfl) 162 #[.pointer (some ⟨w.heap.size, 0, none⟩)] trivial (enters_of Tryz.func162 (by kernel_rfl) rfl) _ _ hmax hbytes _ hseq

theorem before_lt : ∀ {a b : Nm}, bytesBefore a b = true → a < b
  | [], [], h => by simp [bytesBefore] at h
  | [], _ :: _, _ => List.nil_lt_cons _ _
  | _ :: _, [], h => by simp [bytesBefore] at h
  | x :: a, y :: b, h => by
    rw [bytesBefore] at h
    simp only [Bool.or_eq_true, decide_eq_true_eq, Bool.and_eq_true, beq_iff_eq] at h
    rw [List.cons_lt_cons_iff]
    rcases h with h | ⟨h1, h2⟩
    · exact .inl h
    · exact .inr ⟨h1, before_lt h2⟩
theorem sorted_names {l : Dir} (h : Rise l) {ss : List Nm} (hp : ss.Perm (l.map (·.1))) : ss.mergeSort (fun x y => decide (x ≤ y)) = l.map (·.1) := by
  have h1 : ss.mergeSort leB = (l.map (·.1)).mergeSort leB := mergeSort_of_perm hp
  show ss.mergeSort leB = _
  rw [h1]
  refine List.mergeSort_of_pairwise ?_
  rw [List.pairwise_map]
  exact h.imp fun hb => by simpa using List.le_of_lt (before_lt hb)
theorem row_of_owns {w : World} {B : Nat} {e : TypeId} {size : Nat} {v : Value} {n : Nat} {xs : List Value} (h : w.ownsRow B e size v n xs) : Row w e size v n xs ∧ ∀ k, ob v = some k → B ≤ k := by
  rcases h.2 with ⟨rfl, h0⟩ | ⟨g, cap, cur, rfl, hb, hg, h1, h2, h3, h4⟩
  · exact ⟨⟨h.1, .inl ⟨h0, .inl rfl⟩⟩, fun k hk => by simp [ob] at hk⟩
  · cases cap with
    | zero =>
      obtain rfl : n = 0 := by omega
      exact ⟨⟨h.1, .inl ⟨rfl, .inr ⟨_, _, rfl⟩⟩⟩, fun k hk => by simp [ob] at hk⟩
    | succ c => exact ⟨⟨h.1, .inr ⟨g, c, cur, rfl, hg, h1, h2, h3, h4⟩⟩, fun k hk => by simp [ob] at hk; omega⟩
def nmVals (l : List Nm) : List Value := l.map encStr
set_option maxHeartbeats 1000000 in
set_option maxRecDepth 100000 in
theorem names_any (b : Nat) (l : Dir) (w : World) (h : DirAt w b l) (hl : l.length ≤ 1000000) :
    Calls Tryz.prog 36 #[.map (some b)] w fun e w' => ∃ v, e = .returned v ∧ Row w' 9 1 v l.length (nmVals (l.map (·.1))) ∧ Below w.heap.size w w' ∧ ∀ k, ob v = some k → w.heap.size ≤ k := by
  have hsz : Maps.size (DataW.map (encD l)) = l.length := encD_length l
  have HK := Lib.hid (keys_any (some b) w)
  have HS := Lib.hid (sorted_any b _ _ _ w h (by rw [hsz]; unfold maxLen; omega) (by rw [hsz]; omega))
  have hris := Lib.hid (h.rise keyS)
  clear hsz
  go_enter Tryz.func36, Tryz.ntmps36
  go_wp2_with (first | (go_at_call 122; refine HK.out.mono ?_; rintro e w1 ⟨rfl, rfl⟩) | (go_at_call 121; refine HS.out.mono ?_; rintro e w2 ⟨v, ss, rfl, hp, hrow, hnil, hb⟩))
  go_ret
  rw [encD_keys] at hp
  obtain ⟨h1, h2⟩ := row_of_owns hrow
  have hlen : ss.length = l.length := by rw [hp.length_eq]; simp
  rw [sorted_names hris.out hp, hlen] at h1
  refine ⟨v, rfl, h1, ((Below.refl _ _).alloc (Nat.le_refl _) _).trans (hb.mono (by simp)), fun k hk => ?_⟩
  have := h2 k hk
  simp at this
  omega
theorem namesS_nil (w : World) : Calls Tryz.prog 15 #[.pointer none] w fun e w' => e = .returned (.slice none 0 0) ∧ w = w' := by
  go_enter Tryz.func15, Tryz.ntmps15
  go_wp2_with (go_at_call 52; refine (on_nil _).mono ?_; rintro e w1 ⟨rfl, rfl⟩)
  go_ret
  exact ⟨rfl, rfl⟩
theorem namesS_off (b : Nat) (w : World) (h : w.cell? ⟨b, 1, none⟩ = some (.bool false)) : Calls Tryz.prog 15 #[.pointer (some ⟨b, 0, none⟩)] w fun e w' => e = .returned (.slice none 0 0) ∧ w = w' := by
  go_enter Tryz.func15, Tryz.ntmps15
  go_wp2_with (go_at_call 52; refine (on_at _ _ _ h).mono ?_; rintro e w1 ⟨rfl, rfl⟩)
  go_ret
  exact ⟨rfl, rfl⟩
set_option maxHeartbeats 1000000 in
theorem namesS_any {w : World} {r : Rep} {s : St} {n m : Nat} (h : Sys w r s) (hL : Lim n m s) (hN : n ≤ 1000000) :
    Calls Tryz.prog 15 #[.pointer (some ⟨r.p, 0, none⟩)] w fun e w' => ∃ v, e = .returned v ∧ Row w' 9 1 v s.names.length (nmVals s.names) ∧ Below w.heap.size w w' ∧ ∀ k, ob v = some k → w.heap.size ≤ k := by
  have c1 := h.c1
  cases hon : s.on
  · refine (namesS_off r.p w (by rw [← hon]; exact h.c1)).mono ?_
    rintro e w' ⟨rfl, rfl⟩
    have : s.names = [] := by unfold St.names; rw [hon]; rfl
    rw [this]
    exact ⟨_, rfl, row_nil _ _ _, Below.refl _ _, fun k hk => by simp [ob] at hk⟩
  · have c6 := h.c6
    have hnow := hL.now h.wf
    have HN := Lib.hid (names_any r.mn _ w h.now (by unfold mapD; simp; omega))
    rw [mapD_names] at HN
    have hln : (mapD r.at s.now).length = (s.now.map (·.1)).length := by unfold mapD; simp
    rw [hln] at HN
    have hs : s.names = s.now.map (·.1) := by unfold St.names; rw [hon]; rfl
    rw [hs]
    rw [hon] at c1
    clear hs hln hnow hon
    go_enter Tryz.func15, Tryz.ntmps15
    go_wp2_with (first | (go_at_call 52; refine (on_at _ _ _ c1).mono ?_; rintro e w1 ⟨rfl, rfl⟩) | (go_at_call 36; refine HN.out.mono ?_; rintro e w2 ⟨v, rfl, hrow, hb, hf⟩))
    go_ret
    exact ⟨v, rfl, hrow, hb, hf⟩
end Go.Proofs.YtfndlfnlepndmaaGreat

namespace Go.Proofs.YtfndlfnlepndmaaGreat
open Go.RowKit

theorem chg_cell {f : Nat → Nat} : ∀ (cs : List Chg) (k : Nat) (h : k < cs.length) (j : Nat), j < 3 → (cs.flatMap (chgCells f))[k * 3 + j]? = (chgCells f cs[k])[j]?
  | [], _, h, _, _ => by cases h
  | c :: cs, 0, _, j, hj => by
    rw [List.flatMap_cons, Nat.zero_mul, Nat.zero_add, List.getElem?_append_left (by simpa [chgCells] using hj)]
    rfl
  | c :: cs, k + 1, h, j, hj => by
    have hl : (chgCells f c).length = 3 := rfl
    rw [List.flatMap_cons, List.getElem?_append_right (by rw [hl]; omega), hl, show (k + 1) * 3 + j - 3 = k * 3 + j by omega]
    exact chg_cell cs k (by simpa using h) j hj
theorem able_at : ∀ (cs : List Chg) (d : Dir) (k : Nat) (h : k < cs.length), able d cs → (cs[k]).able (redo d (cs.take k))
  | c :: cs, d, 0, _, ha => ha.1
  | c :: cs, d, k + 1, h, ha => able_at cs (c.run d) k (by simpa using h) ha.2
theorem redo_take (cs : List Chg) (d : Dir) (k : Nat) (h : k < cs.length) : redo d (cs.take (k + 1)) = (cs[k]).run (redo d (cs.take k)) := by
  rw [List.take_succ_eq_append_getElem h, redo_snoc]
theorem pAt_ptr (o : Option Nat) : ∃ a, pAt o = .pointer a := by cases o <;> exact ⟨_, rfl⟩
set_option maxHeartbeats 2000000 in
set_option maxRecDepth 100000 in
theorem redo_any (b : Nat) (d : Dir) (v : Value) (cs : List Chg) (f : Nat → Nat) (w : World) (hd : DirAt w b d) (hrow : Row w 80 3 v cs.length (cs.flatMap (chgCells f))) (ha : able d (cs.map (Chg.map f))) (hs : ∀ c ∈ cs, c.src.length ≤ 1000 ∧ c.dst.length ≤ 1000) (hdl : d.length + cs.length ≤ 1000000000) :
    Calls Tryz.prog 27 #[.map (some b), v] w fun e w' => e = .returned (.map (some w.heap.size)) ∧ DirAt w' w.heap.size (redo d (cs.map (Chg.map f))) ∧ Below w.heap.size w w' := by
  have HC := Lib.hid (dclone_any b d w hd)
  obtain ⟨a, cap, hv, hcap, hcm⟩ := hrow.le
  have hcell := hrow.cell
  subst hv
  have hlen : cs.length ≤ 1000000000 := by omega
  go_enter Tryz.func27, Tryz.ntmps27
  go_wp2_with (go_at_call 117; refine HC.out.mono ?_; rintro e w1 ⟨rfl, hd1, hb1, hz1⟩)
  go_loopw [6, 11] (fun _ iv wr => ∃ k : Nat, k ≤ cs.length ∧ iv = .int .i64 (k : Int) ∧ DirAt wr w.heap.size (redo d ((cs.map (Chg.map f)).take k)) ∧ Below w.heap.size w wr)
    (fun _ iv _ => cs.length - (intOf iv).toNat)
  case atStart => exact ⟨0, Nat.zero_le _, rfl, hd1, hb1⟩
  case round =>
    obtain ⟨k, hk, rfl, hdk, hbk⟩ := hrel
    by_cases hlt : k < cs.length
    · have hne : ∃ g o, a = some ⟨g, o, none⟩ := by
        rcases hrow.2 with ⟨h0, -⟩ | ⟨g, c, cur, hv, -⟩
        · omega
        · cases hv
          exact ⟨g, 0, rfl⟩
      obtain ⟨g, o, rfl⟩ := hne
      have hgl : g < w.heap.size := World.block_lt_of_cell? w ⟨g, o + (k * 3 + 0), none⟩ (hcell g o cap rfl (k * 3 + 0) _ (chg_cell cs k hlt 0 (by omega)))
      have q0 : wr.cell? ⟨g, o + k * 3, none⟩ = some (.string ⟨(cs[k]).src.toArray⟩) := (hbk.cell (p := ⟨g, o + k * 3, none⟩) hgl).trans (hcell g o cap rfl (k * 3 + 0) _ (chg_cell cs k hlt 0 (by omega)))
      have q1 : wr.cell? ⟨g, o + k * 3 + 1, none⟩ = some (.string ⟨(cs[k]).dst.toArray⟩) := (hbk.cell (p := ⟨g, o + k * 3 + 1, none⟩) hgl).trans (hcell g o cap rfl (k * 3 + 1) _ (chg_cell cs k hlt 1 (by omega)))
      have q2 : wr.cell? ⟨g, o + k * 3 + 2, none⟩ = some (pAt ((cs[k]).made.map f)) := (hbk.cell (p := ⟨g, o + k * 3 + 2, none⟩) hgl).trans (hcell g o cap rfl (k * 3 + 2) _ (chg_cell cs k hlt 2 (by omega)))
      have hk' : k < (cs.map (Chg.map f)).length := by simpa using hlt
      have hab := able_at _ d k hk' ha
      have htk := Lib.hid (redo_take (cs.map (Chg.map f)) d k hk')
      have hgetm : (cs.map (Chg.map f))[k] = Chg.map f cs[k] := by simp
      rw [hgetm] at hab htk
      have hsk := hs cs[k] (List.getElem_mem hlt)
      have hrl : (redo d ((cs.map (Chg.map f)).take k)).length ≤ 1000000000 := by
        have h1 := redo_length ((cs.map (Chg.map f)).take k) d
        have h2 : ((cs.map (Chg.map f)).take k).length ≤ cs.length := by simp; omega
        omega
      have hdo := Lib.hid (fun W hW => chg_do w.heap.size (redo d ((cs.map (Chg.map f)).take k)) ⟨(cs[k]).src.toArray⟩ ⟨(cs[k]).dst.toArray⟩ ((cs[k]).made.map f) W hW (by show (cs[k]).src.length ≤ _; omega) (by show (cs[k]).dst.length ≤ _; omega) hrl hab)
      obtain ⟨pa, hpa⟩ := pAt_ptr ((cs[k]).made.map f)
      rw [hpa] at q2 hdo
      obtain ⟨X, hX⟩ : ∃ X : ByteArray, X = ⟨(cs[k]).src.toArray⟩ := ⟨_, rfl⟩
      obtain ⟨Y, hY⟩ : ∃ Y : ByteArray, Y = ⟨(cs[k]).dst.toArray⟩ := ⟨_, rfl⟩
      rw [← hX] at q0 hdo
      rw [← hY] at q1 hdo
      have HX := Lib.hid (show Chg.mk X.data.toList Y.data.toList ((cs[k]).made.map f) = Chg.map f cs[k] by rw [hX, hY]; rfl)
      clear hX hY
      clear hgetm hpa hab hsk hrl hcell
      go_wp2_with (go_at_call 118; refine (hdo.out _ (by exact hdk.kept (Below.heap_alloc wr _ _ hdk.lt))).mono ?_; rintro e w3 ⟨rfl, hd3, ht3⟩)
      refine ⟨⟨k + 1, by omega, by go_num, ?_, ?_⟩, by simp [intOf]; omega⟩
      · rw [htk.out, ← HX.out]
        exact hd3
      · have hz := hbk.size
        exact (hbk.alloc hz _).trans (ht3.below (by simp; omega) (by simp))
    · obtain rfl : k = cs.length := by omega
      go_wp2
      go_ret
      refine ⟨rfl, ?_, hbk⟩
      rwa [List.take_of_length_le (by simp)] at hdk
end Go.Proofs.YtfndlfnlepndmaaGreat

namespace Go.Proofs.YtfndlfnlepndmaaGreat
open Go.RowKit

theorem cut_le {f : Fil} (h : f.syn ≤ f.b.length) (keep : Int) : f.syn + modn keep (f.b.length - f.syn + 1) ≤ f.b.length := by
  have := modn_lt keep (f.b.length - f.syn + 1) (by omega)
  omega
theorem cut_end {w w' : World} {x : Nat × Value} {f : Fil} {keep : Int} {a : Option Addr} {cap : Nat} (hok : FileOk w x f) (hx : x.2 = .slice a f.b.length cap) (hne : ob x.2 ≠ some x.1)
    (hw : w' = (w.setCell ⟨x.1, 1, none⟩ (.int .i64 ((f.syn + modn keep (f.b.length - f.syn + 1) : Nat) : Int))).setCell ⟨x.1, 0, none⟩ (.slice a (f.syn + modn keep (f.b.length - f.syn + 1)) cap)) :
    FileOk w' (x.1, .slice a (f.syn + modn keep (f.b.length - f.syn + 1)) cap) (f.cut keep) ∧ Turn [x.1] w w' := by
  have hle := cut_le hok.syn keep
  have hrow := hok.row.cut (f.syn + modn keep (f.b.length - f.syn + 1)) hle hx
  rw [Nat.mul_one] at hrow
  have hk : ∀ k, k ≠ x.1 → w'.heap[k]? = w.heap[k]? := fun k hk => by
    rw [hw]
    exact (heap_setCell_other _ ⟨x.1, 0, none⟩ k _ hk).trans (heap_setCell_other _ ⟨x.1, 1, none⟩ k _ hk)
  have hobe : ∀ k, ob (.slice a (f.syn + modn keep (f.b.length - f.syn + 1)) cap) = some k → k ≠ x.1 := by
    intro k hk e
    refine hne ?_
    rw [hx, ← e, ← hk]
    cases a <;> cases cap <;> rfl
  refine ⟨⟨?_, ?_, ?_⟩, ?_⟩
  · rw [hw]
    have h1 := heap_setCell_same w x.1 1 _ _ (.int .i64 ((f.syn + modn keep (f.b.length - f.syn + 1) : Nat) : Int)) hok.cells
    exact heap_setCell_same _ x.1 0 _ _ _ h1
  · have e1 : (f.cut keep).b.length = f.syn + modn keep (f.b.length - f.syn + 1) := by
      unfold Fil.cut
      simp only [List.length_take]
      omega
    have e2 : byteVals (f.cut keep).b = (byteVals f.b).take (f.syn + modn keep (f.b.length - f.syn + 1)) := by
      unfold Fil.cut byteVals
      simp only [List.map_take]
    rw [e1, e2]
    exact hrow.kept fun k hk' => hk k (hobe k hk')
  · unfold Fil.cut
    simp only [List.length_take]
    omega
  · rw [hw]
    exact ((Turn.refl _ _).setCell (.inl (by simp)) _).setCell (.inl (by simp)) _
set_option maxHeartbeats 2000000 in
set_option maxRecDepth 100000 in
theorem cut_any {w : World} {x : Nat × Value} {f : Fil} (hok : FileOk w x f) (hne : ob x.2 ≠ some x.1) (keep : Int) (hl : f.b.length ≤ 1000000000) :
    Calls Tryz.prog 37 #[.pointer (some ⟨x.1, 0, none⟩), .int .i64 keep] w fun e w' => e = .returned (.tuple #[]) ∧ ∃ v, FileOk w' (x.1, v) (f.cut keep) ∧ ob v = ob x.2 ∧ Turn [x.1] w w' := by
  obtain ⟨a, cap, hx, hcap, hcm⟩ := hok.slice
  have k0 := hok.c0
  rw [hx] at k0
  have k1 := hok.c1
  have f0 := hok.warm 0
  have f1 := hok.warm 1
  have hsyn := hok.syn
  have HM := Lib.hid (fun W => modulo_any keep (f.b.length - f.syn + 1) W (by omega) (by omega))
  have hle := cut_le hok.syn keep
  have hend := Lib.hid (fun w' hw => cut_end (w' := w') (keep := keep) hok hx hne hw)
  have hob : ob (.slice a (f.syn + modn keep (f.b.length - f.syn + 1)) cap) = ob x.2 := by
    rw [hx]
    cases a <;> cases cap <;> rfl
  have Hob := Lib.hid hob
  clear hob
  have hw1 : IntKind.i64.wrap (IntKind.i64.wrap ((f.b.length : Int) - (f.syn : Int)) + 1) = ((f.b.length - f.syn + 1 : Nat) : Int) := by
    rw [wrap_same ((f.b.length : Int) - (f.syn : Int)) (by omega) (by omega), wrap_same _ (by omega) (by omega)]
    omega
  have hw2 : IntKind.i64.wrap ((f.syn : Int) + ((modn keep (f.b.length - f.syn + 1) : Nat) : Int)) = ((f.syn + modn keep (f.b.length - f.syn + 1) : Nat) : Int) := by
    rw [wrap_same _ (by omega) (by omega)]
    omega
  obtain ⟨J, hJ⟩ : ∃ J, J = f.syn + modn keep (f.b.length - f.syn + 1) := ⟨_, rfl⟩
  rw [← hJ] at hw2 hend Hob hle
  clear hJ
  generalize modn keep (f.b.length - f.syn + 1) = j at *
  generalize f.b.length - f.syn + 1 = D at *
  generalize f.b.length = L at *
  generalize f.syn = sy0 at *
  have hJ0 : (0 : Int) ≤ (J : Int) := by omega
  have hJc : (J : Int) ≤ (cap : Int) := by omega
  have hcm' : cap ≤ 9223372036854775807 := by unfold maxLen at hcm; omega
  go_enter Tryz.func37, Tryz.ntmps37
  go_upto_region 0 with fail
  go_cut [1] (fun s1 w' => s1 = .int .i64 keep ∧ w' = (w.setCell ⟨x.1, 1, none⟩ (.int .i64 (J : Int))).drew)
  case first =>
    go_region_with (go_at_call 35; refine (HM.out _).mono ?_; rintro e w1 ⟨rfl, rfl⟩)
    all_goals (go_wp2_with fail; go_meet; exact ⟨rfl, rfl⟩)
  case rest =>
    obtain ⟨rfl, rfl⟩ := hcut
    have q0 : (w.setCell ⟨x.1, 1, none⟩ (.int .i64 (J : Int))).cell? ⟨x.1, 0, none⟩ = some (.slice a L cap) := cell_set k0 (by decide)
    have q1 : (w.setCell ⟨x.1, 1, none⟩ (.int .i64 (J : Int))).cell? ⟨x.1, 1, none⟩ = some (.int .i64 (J : Int)) := cell_new k1
    have g0 : (w.setCell ⟨x.1, 1, none⟩ (.int .i64 (J : Int))).frozen? ⟨x.1, 0, none⟩ = false := warm_set f0
    have hfin := Lib.hid (hend.out _ rfl)
    clear HM hend hw1 hw2 k0 k1 f0 f1
    generalize (w.setCell ⟨x.1, 1, none⟩ (.int .i64 (J : Int))) = w2 at *
    cases a with
    | none =>
      go_wp2
      go_region_with (fail)
      all_goals go_wp2
      all_goals go_end0
      all_goals exact ⟨rfl, _, hfin.out.1.kept (fun _ _ => rfl), Hob.out, hfin.out.2.drew.drew⟩
    | some a =>
      go_wp2
      go_region_with (fail)
      all_goals go_wp2
      all_goals go_end0
      all_goals exact ⟨rfl, _, hfin.out.1.kept (fun _ _ => rfl), Hob.out, hfin.out.2.drew.drew⟩
end Go.Proofs.YtfndlfnlepndmaaGreat

namespace Go.Proofs.YtfndlfnlepndmaaGreat
open Go.RowKit

theorem redo_ids {Q : Nat → Prop} : ∀ (l : List Chg) (d : Dir), (∀ p ∈ d, Q p.2) → (∀ c ∈ l, ∀ i, c.made = some i → Q i) → ∀ p ∈ redo d l, Q p.2
  | [], _, hd, _ => hd
  | c :: l, d, hd, hc => redo_ids l (c.run d) (Chg.run_mem (Q := fun p => Q p.2) hd (fun a _ ha => by
      unfold Chg.file at ha
      split at ha
      · exact hc c (by simp) a ha
      · exact hd (c.src, a) (mem_of_dget ha))) (fun c' hc' => hc c' (List.mem_cons_of_mem _ hc'))
theorem redo_nms : ∀ (l : List Chg) (d : Dir), (∀ p ∈ d, isNm p.1 = true) → (∀ c ∈ l, c.dst = [] ∨ isNm c.dst = true) → ∀ p ∈ redo d l, isNm p.1 = true
  | [], _, hd, _ => hd
  | c :: l, d, hd, hc => redo_nms l (c.run d) (Chg.run_mem (Q := fun p => isNm p.1 = true) hd (fun a hne _ => by
      rcases hc c (by simp) with h' | h'
      · exact absurd h' hne
      · exact h')) (fun c' hc' => hc c' (List.mem_cons_of_mem _ hc'))
theorem dget_of_mem : ∀ {d : Dir}, d.Pairwise (fun p q => p.1 ≠ q.1) → ∀ {n : Nm} {a : Nat}, (n, a) ∈ d → dget d n = some a
  | [], _, _, _, h => by cases h
  | p :: d, hp, n, a, h => by
    have h2 := List.pairwise_cons.1 hp
    by_cases he : p.1 = n
    · have : p = (n, a) := by
        rcases List.mem_cons.1 h with h' | h'
        · exact h'.symm
        · exact absurd he (h2.1 _ h')
      subst this
      simp [dget]
    · have h' : (n, a) ∈ d := by
        rcases List.mem_cons.1 h with h' | h'
        · exact absurd (by rw [← h']) he
        · exact h'
      have ih := dget_of_mem h2.2 h'
      unfold dget at ih ⊢
      rw [List.find?_cons_of_neg (by simpa using he)]
      exact ih
def Rep.nowAt (r : Rep) (b : Nat) : Rep := { r with mn := b }
theorem foot_nowAt (r : Rep) (b k : Nat) : k ∈ (r.nowAt b).foot ↔ k = r.p ∨ k = b ∨ k = r.ml ∨ ob r.pv = some k ∨ k ∈ r.fs.flatMap fFoot := by
  simp [Rep.foot, Rep.rest, Rep.nowAt]
theorem nodup_nowAt {r : Rep} (h : r.foot.Nodup) {b : Nat} (hb : b ∉ r.foot) : (r.nowAt b).foot.Nodup := by
  have h' : (r.p :: r.ml :: r.rest).Nodup := by
    refine List.Nodup.sublist ?_ h
    simp only [Rep.foot]
    simp
  have hn : b ∉ r.p :: r.ml :: r.rest := by
    intro hm
    refine hb ?_
    simp only [Rep.foot, List.mem_cons] at hm ⊢
    rcases hm with hm | hm | hm
    · exact .inl hm
    · exact .inr (.inr (.inl hm))
    · exact .inr (.inr (.inr hm))
  have : (r.nowAt b).foot.Perm (b :: r.p :: r.ml :: r.rest) := by
    simp only [Rep.foot, Rep.nowAt]
    exact List.Perm.swap _ _ _
  exact this.nodup_iff.2 (List.nodup_cons.2 ⟨hn, h'⟩)
/-- The directory is another one. -/
theorem Sys.nowAt {w w' : World} {r : Rep} {s : St} {d : Dir} {b : Nat} (h : Sys w r s) (hb : w.heap.size ≤ b) (hc : w'.heap[r.p]? = some (.cells (sysCells (r.nowAt b) s) 70)) (hd : DirAt w' b (mapD r.at d))
    (hk : ∀ k ∈ r.foot, k ≠ r.p → w'.heap[k]? = w.heap[k]?) (h1 : ∀ p ∈ d, p.2 < s.files.length) (h2 : ∀ p ∈ d, isNm p.1 = true) : Sys w' (r.nowAt b) { s with now := d } := by
  have A := apart_of h.apart
  have hk' : ∀ k, k = r.ml ∨ ob r.pv = some k ∨ k ∈ r.fs.flatMap fFoot → w'.heap[k]? = w.heap[k]? := by
    intro k hm
    refine hk k ?_ ?_
    · rw [foot_iff]
      rcases hm with hm | hm | hm
      · exact .inr (.inr (.inl hm))
      · exact .inr (.inr (.inr (.inl hm)))
      · exact .inr (.inr (.inr (.inr hm)))
    · rcases hm with rfl | hm | hm
      · exact fun e => A.pl e.symm
      · exact (A.pv k hm).1
      · exact (A.fs k hm).1
  refine ⟨hc, hd, h.last.kept (hk' _ (.inl rfl)), h.pend.kept (fun k e => hk' k (.inr (.inl e))), h.len, ?_, ?_, ⟨h1, h2, h.wf.ids, h.wf.made, h.wf.nms, h.wf.cnms⟩⟩
  · exact fun i x f hx hf => (h.file i x f hx hf).kept fun k hm => hk' k (.inr (.inr (List.mem_flatMap.2 ⟨x, List.mem_of_getElem? hx, hm⟩)))
  · exact nodup_nowAt h.apart (fun hm => by have := h.lt b hm; omega)
/-- Numbers that are handed in: a slice, its cells outside F. -/
def KeepAt (w : World) (F : List Nat) (v : Value) (ks : List Int) : Prop :=
  ∃ a cap, v = .slice a ks.length cap ∧ cap ≤ maxLen ∧ ks.length ≤ cap ∧ ∀ i (h : i < ks.length), ∃ g o, a = some ⟨g, o, none⟩ ∧ g ∉ F ∧ w.cell? ⟨g, o + i, none⟩ = some (.int .i64 ks[i])
theorem keep_nil (w : World) (F : List Nat) : KeepAt w F (.slice none 0 0) [] := ⟨none, 0, rfl, Nat.zero_le _, Nat.le_refl _, fun i h => by cases h⟩
/-- What was pending is in order. -/
structure Coh (s : St) : Prop where
  able : able s.last s.pend
  now : s.now = redo s.last s.pend
theorem cuts_step (F : List Fil) (d : Dir) (ks : List Int) (k : Nat) (h : k < d.length) : cuts F (d.drop k) (ks.drop k) = cuts (F.set d[k].2 ((F.getD d[k].2 nofil).cut ((ks.drop k).headD 0))) (d.drop (k + 1)) (ks.drop (k + 1)) := by
  rw [List.drop_eq_getElem_cons h, cuts]
  congr 1
  rw [List.tail_drop]
theorem headD_drop (ks : List Int) (k : Nat) : (ks.drop k).headD 0 = if h : k < ks.length then ks[k] else 0 := by
  split
  · rename_i h
    rw [List.drop_eq_getElem_cons h]
    rfl
  · rename_i h
    rw [List.drop_of_length_le (by omega)]
    rfl
theorem crash_nil (dir : Int) (v : Value) (w : World) : Calls Tryz.prog 12 #[.pointer none, .int .i64 dir, v] w fun e w' => e = .returned (.tuple #[]) ∧ w = w' := by
  go_enter Tryz.func12, Tryz.ntmps12
  go_wp2
  exact bodyPost_ret (v := .tuple #[]) (by simp [results, Tryz.results12]) rfl ⟨rfl, rfl⟩
set_option maxHeartbeats 8000000 in
set_option maxRecDepth 100000 in
theorem crash_any {w : World} {r : Rep} {s : St} {n m : Nat} (h : Sys w r s) (hL : Lim n m s) (hN : n ≤ 100000) (hM : m ≤ 1000000000) (hC : Coh s) (dir : Int) (kv : Value) (ks : List Int) (hks : KeepAt w r.foot kv ks) :
    Calls Tryz.prog 12 #[.pointer (some ⟨r.p, 0, none⟩), .int .i64 dir, kv] w fun e w' => e = .returned (.tuple #[]) ∧ Next w r (s.crash dir ks) w' := by
  have hdirs := hL.dirs
  have c1 := h.c1
  have c4 := h.c4
  have c5 := h.c5
  have f1 := h.warm 1
  have f4 := h.warm 4
  have f5 := h.warm 5
  have f6 := h.warm 6
  obtain ⟨W1, hW1⟩ : ∃ W1, W1 = ((w.setCell ⟨r.p, 1, none⟩ (.bool false)).setCell ⟨r.p, 4, none⟩ (.int .i64 (-1))).setCell ⟨r.p, 5, none⟩ (.int .i64 (-1)) := ⟨_, rfl⟩
  have hs1 : Sys W1 r { s with on := false, fuse := -1, bad := -1 } := by
    rw [hW1]
    exact ((h.set (s' := { s with on := false }) 1 (.bool false) rfl rfl rfl rfl rfl).set (s' := { s with on := false, fuse := -1 }) 4 (.int .i64 (-1)) rfl rfl rfl rfl rfl).set (s' := { s with on := false, fuse := -1, bad := -1 }) 5 (.int .i64 (-1)) rfl rfl rfl rfl rfl
  have ht1 : Turn [r.p] w W1 := by
    rw [hW1]
    exact (((Turn.refl _ _).setCell (.inl (by simp)) _).setCell (.inl (by simp)) _).setCell (.inl (by simp)) _
  have hz1 : W1.heap.size = w.heap.size := by rw [hW1]; simp
  obtain ⟨K, hK⟩ : ∃ K, K = modn dir (s.pend.length + 1) := ⟨_, rfl⟩
  have hKl : K ≤ s.pend.length := by rw [hK]; have := modn_lt dir (s.pend.length + 1) (by omega); omega
  have HM := Lib.hid (fun W => modulo_any dir (s.pend.length + 1) W (by omega) (by omega))
  rw [← hK] at HM
  have hcr : s.crash dir ks = { s with on := false, fuse := -1, bad := -1, now := redo s.last (s.pend.take K), last := redo s.last (s.pend.take K), pend := [], files := cuts s.files (redo s.last (s.pend.take K)) ks } := by
    rw [hK]; rfl
  rw [hcr]
  clear hcr hK
  obtain ⟨pa, pcap, hpv, hpc, hpm⟩ := h.pend.le
  have hrow1 := hs1.pend.cut K hKl hpv
  have htk : (s.pend.flatMap (chgCells r.at)).take (K * 3) = (s.pend.take K).flatMap (chgCells r.at) := by
    have : ∀ (l : List Chg) (k : Nat), (l.flatMap (chgCells r.at)).take (k * 3) = (l.take k).flatMap (chgCells r.at) := by
      intro l
      induction l with
      | nil => intro k; simp
      | cons c l ih =>
        intro k
        cases k with
        | zero => simp
        | succ k =>
          rw [List.flatMap_cons, List.take_succ_cons, List.flatMap_cons, ← ih k]
          have hl : (chgCells r.at c).length = 3 := rfl
          rw [List.take_append, hl, List.take_of_length_le (by omega), show (k + 1) * 3 - 3 = k * 3 by omega]
    exact this s.pend K
  have hlk : (s.pend.take K).length = K := by simp; omega
  have Hredo := Lib.hid (redo_any r.ml (mapD r.at s.last) (.slice pa K pcap) (s.pend.take K) r.at W1.drew (hs1.last.kept rfl) (by
      rw [hlk, ← htk]
      exact hrow1.kept fun _ _ => rfl) (by
      have : ∀ (l : List Chg) (d : Dir), able d l → able (mapD r.at d) (l.map (Chg.map r.at)) := by
        intro l
        induction l with
        | nil => intro d _; trivial
        | cons c l ih => intro d ha; exact ⟨able_map ha.1, by rw [Chg.map_run]; exact ih _ ha.2⟩
      exact this _ _ (able_take _ _ K hC.able)) (by
      intro c hc
      have hc' := h.wf.cnms c (List.mem_of_mem_take hc)
      have nmlen : ∀ {x : Nm}, x = [] ∨ isNm x = true → x.length ≤ 1000 := by
        rintro x (rfl | hx)
        · simp
        · simp [isNm] at hx; omega
      exact ⟨nmlen hc'.1, nmlen hc'.2⟩) (by unfold mapD; simp; omega))
  rw [redo_map] at Hredo
  obtain ⟨d, hd⟩ : ∃ d, d = redo s.last (s.pend.take K) := ⟨_, rfl⟩
  rw [← hd] at Hredo ⊢
  have hdi : ∀ p ∈ d, p.2 < s.files.length := by
    rw [hd]
    exact redo_ids _ _ h.wf.ids (fun c hc => h.wf.made c (List.mem_of_mem_take hc))
  have hdn : ∀ p ∈ d, isNm p.1 = true := by
    rw [hd]
    exact redo_nms _ _ h.wf.nms (fun c hc => (h.wf.cnms c (List.mem_of_mem_take hc)).2)
  have hdl : d.length ≤ 100000 := by
    rw [hd]
    have := redo_length (s.pend.take K) s.last
    omega
  clear hd htk hrow1
  have p7 := hs1.c7
  have p8 : W1.cell? ⟨r.p, 8, none⟩ = some (.slice pa s.pend.length pcap) := by rw [← hpv]; exact hs1.c8
  have p6 := hs1.c6
  have g6 := hs1.warm 6
  have hw1 : IntKind.i64.wrap ((s.pend.length : Int) + 1) = ((s.pend.length + 1 : Nat) : Int) := by rw [wrap_same _ (by omega) (by omega)]; omega
  have hK0 : (0 : Int) ≤ (K : Int) := by omega
  have hKc : (K : Int) ≤ (pcap : Int) := by omega
  generalize s.pend.length + 1 = P1 at HM hw1
  have HW1 := Lib.hid hW1
  have Hz1 := Lib.hid hz1
  clear hW1 hz1
  go_enter Tryz.func12, Tryz.ntmps12
  go_upto_region 2 with fail
  rw [← HW1.out]
  go_cut [] (fun wx => ∃ w2, Below W1.heap.size W1 w2 ∧ DirAt w2 W1.heap.size (mapD r.at d) ∧ wx = w2.setCell ⟨r.p, 6, none⟩ (.map (some W1.heap.size)))
  case first =>
    have hpl1 : r.p < W1.heap.size := hs1.lt _ (by simp [Rep.foot])
    cases pa with
    | none =>
      go_region_held3 (fun w' => w'.cell? ⟨r.p, 7, none⟩ = some (.map (some r.ml)) ∧ w'.cell? ⟨r.p, 8, none⟩ = some (.slice none s.pend.length pcap)) (first | go_keep | exact ⟨k7, k8⟩ | exact ⟨cell_set k7 (by decide), cell_set k8 (by decide)⟩) (first | (go_at_call 35; refine (HM.out _).mono ?_; rintro e w1 ⟨rfl, rfl⟩) | (go_at_call 27; refine Hredo.out.mono ?_; rintro e w2 ⟨rfl, hd2, hb2⟩; have k7 : w2.cell? ⟨r.p, 7, none⟩ = some (.map (some r.ml)) := (hb2.cell (p := ⟨r.p, 7, none⟩) hpl1).trans p7; have k8 : w2.cell? ⟨r.p, 8, none⟩ = some (.slice none s.pend.length pcap) := (hb2.cell (p := ⟨r.p, 8, none⟩) hpl1).trans p8; have k6 : w2.cell? ⟨r.p, 6, none⟩ = some (.map (some r.mn)) := (hb2.cell (p := ⟨r.p, 6, none⟩) hpl1).trans p6; have g6' : w2.frozen? ⟨r.p, 6, none⟩ = false := (hb2.frozen (p := ⟨r.p, 6, none⟩) hpl1).trans g6))
      all_goals (go_wp2_with fail; go_meet; exact ⟨w2, ⟨hb2.os, hb2.tape, hb2.output, hb2.size, hb2.block⟩, hd2, rfl⟩)
    | some pa =>
      go_region_held3 (fun w' => w'.cell? ⟨r.p, 7, none⟩ = some (.map (some r.ml)) ∧ w'.cell? ⟨r.p, 8, none⟩ = some (.slice (some pa) s.pend.length pcap)) (first | go_keep | exact ⟨k7, k8⟩ | exact ⟨cell_set k7 (by decide), cell_set k8 (by decide)⟩) (first | (go_at_call 35; refine (HM.out _).mono ?_; rintro e w1 ⟨rfl, rfl⟩) | (go_at_call 27; refine Hredo.out.mono ?_; rintro e w2 ⟨rfl, hd2, hb2⟩; have k7 : w2.cell? ⟨r.p, 7, none⟩ = some (.map (some r.ml)) := (hb2.cell (p := ⟨r.p, 7, none⟩) hpl1).trans p7; have k8 : w2.cell? ⟨r.p, 8, none⟩ = some (.slice (some pa) s.pend.length pcap) := (hb2.cell (p := ⟨r.p, 8, none⟩) hpl1).trans p8; have k6 : w2.cell? ⟨r.p, 6, none⟩ = some (.map (some r.mn)) := (hb2.cell (p := ⟨r.p, 6, none⟩) hpl1).trans p6; have g6' : w2.frozen? ⟨r.p, 6, none⟩ = false := (hb2.frozen (p := ⟨r.p, 6, none⟩) hpl1).trans g6))
      all_goals (go_wp2_with fail; go_meet; exact ⟨w2, ⟨hb2.os, hb2.tape, hb2.output, hb2.size, hb2.block⟩, hd2, rfl⟩)
  case rest =>
    obtain ⟨w2, hb2, hd2, rfl⟩ := hcut
    have hs2 := hs1.below hb2
    have hs3 : Sys (w2.setCell ⟨r.p, 6, none⟩ (.map (some W1.heap.size))) (r.nowAt W1.heap.size) { s with on := false, fuse := -1, bad := -1, now := d } := by
      refine hs1.nowAt (Nat.le_refl _) (heap_setCell_same w2 r.p 6 _ _ _ hs2.cells) (hd2.kept (heap_setCell_other _ ⟨r.p, 6, none⟩ _ _ ?_)) (fun k hk hne => (heap_setCell_other _ ⟨r.p, 6, none⟩ _ _ hne).trans (hb2.block k (hs1.lt k hk))) hdi hdn
      intro e
      have := hs1.lt r.p (by simp [Rep.foot])
      have e' : W1.heap.size = r.p := e
      omega
    have ht3 : Turn r.foot w (w2.setCell ⟨r.p, 6, none⟩ (.map (some W1.heap.size))) := ((ht1.mono (G := r.foot) (by simp [Rep.foot])).trans (turn_of_below (F := []) hb2) (by simp)).setCell (.inl (by simp [Rep.foot])) _
    have hz3 : w.heap.size < (w2.setCell ⟨r.p, 6, none⟩ (.map (some W1.heap.size))).heap.size := by
      have := hd2.lt
      have hz := Hz1.out
      simp
      omega
    have hB : W1.heap.size = w.heap.size := Hz1.out
    generalize (w2.setCell ⟨r.p, 6, none⟩ (.map (some W1.heap.size))) = w3 at *
    rw [hB] at hs3
    clear hB hd2 hb2 hs2 p6 p7 p8 g6 HM Hredo hw1 hK0 hKc hpv hpc hpm hlk
    have q6 : w3.cell? ⟨r.p, 6, none⟩ = some (.map (some w.heap.size)) := hs3.c6
    have HN := Lib.hid (names_any w.heap.size _ w3 hs3.now (by unfold mapD; simp; omega))
    rw [mapD_names] at HN
    have hln : (mapD (r.nowAt w.heap.size).at d).length = d.length := by unfold mapD; simp
    rw [hln] at HN
    clear hln
    go_wp2_with (go_at_call 36; refine HN.out.mono ?_; rintro e w4 ⟨nv, rfl, hrow4, hb4, hf4⟩; obtain ⟨na, ncap, rfl, hnc, hncm⟩ := hrow4.le)
    have hs4 := hs3.below hb4
    have hfoot3 := hs3.lt
    have hfp : ∀ k, k ∈ (r.nowAt w.heap.size).foot → k ∈ r.foot ∨ k = w.heap.size := by
      intro k hk
      rw [foot_nowAt] at hk
      rw [foot_iff]
      rcases hk with hk | hk | hk | hk | hk
      · exact .inl (.inl hk)
      · exact .inr hk
      · exact .inl (.inr (.inr (.inl hk)))
      · exact .inl (.inr (.inr (.inr (.inl hk))))
      · exact .inl (.inr (.inr (.inr (.inr hk))))
    have hncell := hrow4.cell
    have hris : d.Pairwise (fun p q => p.1 ≠ q.1) := by
      have := hs4.now.rise keyS
      unfold Rise mapD at this
      rw [List.pairwise_map] at this
      exact rise_ne this
    go_loopw [6, 7, 8, 47] (fun _ _ _ iv wr => ∃ (k : Nat) (r' : Rep) (F : List Fil), k ≤ d.length ∧ iv = .int .i64 (k : Int) ∧ Sys wr r' { s with on := false, fuse := -1, bad := -1, now := d, files := F } ∧ r'.p = r.p ∧ r'.mn = w.heap.size ∧ Turn (r.nowAt w.heap.size).foot w4 wr ∧ (∀ x ∈ r'.foot, x ∈ (r.nowAt w.heap.size).foot) ∧ cuts F (d.drop k) (ks.drop k) = cuts s.files d ks ∧ ∀ f ∈ F, f.b.length ≤ m)
      (fun _ _ _ iv _ => d.length - (intOf iv).toNat)
    case atStart => exact ⟨0, _, s.files, Nat.zero_le _, rfl, hs4, rfl, rfl, Turn.refl _ _, fun _ hx => hx, rfl, hL.bytes⟩
    case round =>
      obtain ⟨k, r', F, hk, rfl, hsr, hrp, hrm, htr, hfr, hcu, hby⟩ := hrel
      by_cases hlt : k < d.length
      · obtain ⟨ng, no, hna⟩ : ∃ g o, na = some ⟨g, o, none⟩ ∧ True := by
          rcases hrow4.2 with ⟨h0, -⟩ | ⟨g, c, cur, hv, -⟩
          · omega
          · cases hv
            exact ⟨g, 0, rfl, trivial⟩
        obtain ⟨rfl, -⟩ := hna
        have hnm0 : (nmVals (d.map (·.1)))[k]? = some (.string ⟨d[k].1.toArray⟩) := by simp [nmVals, hlt, encStr]
        have hn4 := hncell ng no ncap rfl k _ hnm0
        have hngl : ng < w4.heap.size := World.block_lt_of_cell? w4 _ hn4
        have hngf : ng ∉ (r.nowAt w.heap.size).foot := by
          intro hm
          have h1 := hfoot3 ng hm
          have h2 := hf4 ng (by
            cases ncap with
            | zero => omega
            | succ c => rfl)
          omega
        have qn : wr.cell? ⟨ng, no + k, none⟩ = some (.string ⟨d[k].1.toArray⟩) := (htr.cell hngl hngf).trans hn4
        have qm : wr.cell? ⟨r.p, 6, none⟩ = some (.map (some w.heap.size)) := by rw [← hrp, ← hrm]; exact hsr.c6
        have hdg : dget d d[k].1 = some d[k].2 := dget_of_mem hris (List.getElem_mem hlt)
        have hdg' : dget ({ s with on := false, fuse := -1, bad := -1, now := d, files := F } : St).now d[k].1 = some d[k].2 := hdg
        obtain ⟨x, f, hx, hfi, hok, hat, hgd⟩ := hsr.here hdg'
        have hnsz : (⟨d[k].1.toArray⟩ : ByteArray).size ≤ maxLen := by
          have := hdn d[k] (List.getElem_mem hlt)
          simp [isNm] at this
          show d[k].1.length ≤ _
          unfold maxLen
          omega
        have hlook := dirLook hsr.now ⟨d[k].1.toArray⟩ hnsz
        rw [mapD_get] at hlook
        have e1 : dget d (⟨d[k].1.toArray⟩ : ByteArray).data.toList = some d[k].2 := hdg
        rw [e1, pAt_map, hat, hrm] at hlook
        have hxne := fFoot_ne hsr hx hok
        have hfl : f.b.length ≤ 1000000000 := Nat.le_trans (hby f (List.mem_of_getElem? hfi)) hM
        have Hcut := Lib.hid (fun kp => cut_any hok hxne kp hfl)
        have hstep := cuts_step F d ks k hlt
        have hgd' : F.getD d[k].2 nofil = f := hgd
        rw [hgd', headD_drop] at hstep
        obtain ⟨ka, kcap, hkv, hkm, hkc, hkcell⟩ := hks
        subst hkv
        generalize (⟨d[k].1.toArray⟩ : ByteArray) = NM at qn hlook
        have hfin := Lib.hid (show ∀ kp w6 v, kp = (if h : k < ks.length then ks[k] else 0) → FileOk w6 (x.1, v) (f.cut kp) → ob v = ob x.2 → Turn [x.1] wr w6 → ∃ (r'' : Rep) (F' : List Fil), Sys w6 r'' { s with on := false, fuse := -1, bad := -1, now := d, files := F' } ∧ r''.p = r.p ∧ r''.mn = w.heap.size ∧ Turn (r.nowAt w.heap.size).foot w4 w6 ∧ (∀ x ∈ r''.foot, x ∈ (r.nowAt w.heap.size).foot) ∧ cuts F' (d.drop (k + 1)) (ks.drop (k + 1)) = cuts s.files d ks ∧ ∀ f ∈ F', f.b.length ≤ m by
          intro kp w6 v hkp hok6 hov ht6
          have hxf : ∀ y ∈ [x.1], y ∈ (r.nowAt w.heap.size).foot ∨ w4.heap.size ≤ y := by
            intro y hy
            simp at hy
            subst hy
            exact .inl (hfr _ (hsr.fs_foot hx _ (by simp [fFoot])))
          refine ⟨r'.refile d[k].2 (x.1, v), F.set d[k].2 (f.cut kp), hsr.refile hx hfi hok6 rfl (.inl hov) (fun y hy hn => ht6.block y hy (by simp; intro e; exact hn (by simp [fFoot, e]))), hrp, hrm, htr.trans ht6 hxf, ?_, ?_, ?_⟩
          · intro y hy
            rcases refile_foot (B := y + 1) (x' := (x.1, v)) hx rfl (.inl hov) y hy with h' | h'
            · exact hfr y h'
            · omega
          · rw [hkp, ← hstep]
            exact hcu
          · intro g hg
            rcases List.mem_or_eq_of_mem_set hg with hg | rfl
            · exact hby g hg
            · unfold Fil.cut
              simp only [List.length_take]
              have := hby f (List.mem_of_getElem? hfi)
              omega)
        clear hstep hcu hdg hdg' e1 hnm0 hn4 hgd hgd' hat
        by_cases hkk : k < ks.length
        · obtain ⟨kg, ko, rfl, hkgf, hkc0⟩ := hkcell k hkk
          have hkgl : kg < w.heap.size := World.block_lt_of_cell? w _ hkc0
          have qk : wr.cell? ⟨kg, ko + k, none⟩ = some (.int .i64 ks[k]) := by
            rw [htr.cell (by have := hb4.size; omega) (by
              intro hm
              rcases hfp kg hm with h' | h'
              · exact hkgf h'
              · omega), hb4.cell (p := ⟨kg, ko + k, none⟩) (show kg < w3.heap.size by omega), ht3.cell hkgl hkgf]
            exact hkc0
          have hkd : decide ((k : Int) < (ks.length : Int)) = true := by simp; omega
          clear hkcell
          go_wp2_with (go_at_call 37; refine (Hcut.out _).mono ?_; rintro e w6 ⟨rfl, v6, hok6, hov6, ht6⟩)
          obtain ⟨r'', F', g1, g2, g3, g4, g5, g6', g7⟩ := hfin.out _ w6 v6 (by rw [dif_pos hkk]) hok6 hov6 ht6
          go_roundw
          case rel => exact ⟨k + 1, r'', F', by omega, by go_num, g1, g2, g3, g4, g5, g6', g7⟩
          case measure => simp [intOf]; omega
        · have hkd : decide ((k : Int) < (ks.length : Int)) = false := by simp; omega
          clear hkcell
          go_wp2_with (go_at_call 37; refine (Hcut.out _).mono ?_; rintro e w6 ⟨rfl, v6, hok6, hov6, ht6⟩)
          obtain ⟨r'', F', g1, g2, g3, g4, g5, g6', g7⟩ := hfin.out _ w6 v6 (by rw [dif_neg hkk]) hok6 hov6 ht6
          go_roundw
          case rel => exact ⟨k + 1, r'', F', by omega, by go_num, g1, g2, g3, g4, g5, g6', g7⟩
          case measure => simp [intOf]; omega
      · obtain rfl : k = d.length := by omega
        rw [List.drop_length] at hcu
        have hset := Lib.hid (settle_any hsr)
        rw [hrp] at hset
        go_wp2_with (go_at_call 38; refine hset.out.mono ?_; rintro e w6 ⟨rfl, hn6⟩)
        go_end0
        refine ⟨rfl, ?_⟩
        have hF : F = cuts s.files d ks := hcu
        subst hF
        refine hn6.after ((ht3.trans (turn_of_below (F := []) hb4) (by simp)).trans htr ?_) ?_ hrp
        · intro y hy
          rcases hfp y hy with h' | h'
          · exact .inl h'
          · exact .inr (by omega)
        · intro y hy
          rcases hfp y (hfr y hy) with h' | h'
          · exact .inl h'
          · exact .inr (by omega)
end Go.Proofs.YtfndlfnlepndmaaGreat

namespace Go.Proofs.YtfndlfnlepndmaaGreat
open Go.RowKit

theorem Lim.up {n m n' m' : Nat} {s : St} (h : Lim n m s) (hn : n ≤ n') (hm : m ≤ m') : Lim n' m' s := by
  have h1 := h.s1
  have h2 := h.dirs
  have h3 := h.nowl
  have h4 := h.files
  exact ⟨h.s0, by omega, by omega, by omega, by omega, fun f hf => Nat.le_trans (h.bytes f hf) hm, h.fuse, h.bad, h.room⟩
theorem doing_lim {n m : Nat} {s : St} (h : Lim n m s) (c : Chg) : Lim (n + 1) m (s.doing c) := by
  have h1 := h.s1
  have h2 := h.dirs
  have h3 := h.nowl
  have h4 := h.files
  have h5 := run_length c s.now
  refine ⟨h.s0, ?_, ?_, ?_, ?_, h.bytes, h.fuse, h.bad, h.room⟩
  · show s.steps ≤ _; omega
  · show s.last.length + (s.pend ++ [c]).length ≤ _; simp; omega
  · show (c.run s.now).length ≤ _; omega
  · show s.files.length ≤ _; omega
theorem set_lim {n m m' : Nat} {s : St} (h : Lim n m s) (i : Nat) (f : Fil) (hm : m ≤ m') (hf : f.b.length ≤ m') : Lim n m' { s with files := s.files.set i f } := by
  refine ⟨h.s0, h.s1, h.dirs, h.nowl, by simpa using h.files, fun g hg => ?_, h.fuse, h.bad, h.room⟩
  rcases List.mem_or_eq_of_mem_set hg with hg | rfl
  · exact Nat.le_trans (h.bytes g hg) hm
  · exact hf
theorem getD_len {n m : Nat} {s : St} (h : Lim n m s) (i : Nat) : (s.files.getD i nofil).b.length ≤ m := by
  rw [List.getD_eq_getElem?_getD]
  cases hg : s.files[i]? with
  | none => exact Nat.zero_le _
  | some f => exact h.bytes f (List.mem_of_getElem? hg)
theorem create_lim {n m : Nat} {s : St} (h : Lim n m s) (nm : Nm) : Lim (n + 2) m (s.create nm).1 := wr_lim h (fun _ => actCreate_lim h.begun nm) (by omega) (Nat.le_refl _)
theorem append_lim {n m : Nat} {s : St} (h : Lim n m s) (nm : Nm) (d : List UInt8) : Lim (n + 1) (m + d.length) (s.append nm d).1 := by
  refine wr_lim h (fun _ => ?_) (by omega) (by omega)
  have hb := h.begun
  unfold actAppend
  split
  · exact hb.up (Nat.le_refl _) (by omega)
  · split
    · exact hb.up (Nat.le_refl _) (by omega)
    · rename_i i _ _
      refine set_lim hb i _ (by omega) ?_
      have := getD_len hb i
      simp only [List.length_append]
      omega
theorem rename_lim {n m : Nat} {s : St} (h : Lim n m s) (a b : Nm) : Lim (n + 2) m (s.rename a b).1 := by
  refine wr_lim h (fun _ => ?_) (by omega) (Nat.le_refl _)
  have hb := h.begun
  unfold actRename
  split
  · split
    · split
      · exact hb.up (by omega) (Nat.le_refl _)
      · exact doing_lim hb _
    · exact hb.up (by omega) (Nat.le_refl _)
  · exact hb.up (by omega) (Nat.le_refl _)
theorem remove_lim {n m : Nat} {s : St} (h : Lim n m s) (a : Nm) : Lim (n + 2) m (s.remove a).1 := by
  refine wr_lim h (fun _ => ?_) (by omega) (Nat.le_refl _)
  have hb := h.begun
  unfold actRemove
  split
  · exact doing_lim hb _
  · exact hb.up (by omega) (Nat.le_refl _)
theorem sy_lim {n m : Nat} {s : St} {act : St → St × Int} (h : Lim n m s) (hact : ∀ t : St, Lim (n + 1) m t → Lim (n + 1) m (act t).1) : Lim (n + 1) m (sy s act).1 := by
  unfold sy
  split
  · split
    · split
      · exact h.begun.bads
      · exact hact _ h.begun.bads
    · exact h.begun.bads
  · exact h.up (by omega) (Nat.le_refl _)
theorem settle_lim {n m : Nat} {s : St} (h : Lim n m s) : Lim n m s.settle := by
  have h3 := h.nowl
  exact ⟨h.s0, h.s1, by simp [St.settle]; omega, h.nowl, h.files, h.bytes, h.fuse, h.bad, h.room⟩
theorem syncDir_lim {n m : Nat} {s : St} (h : Lim n m s) : Lim (n + 1) m s.syncDir.1 := sy_lim h (fun _ ht => settle_lim ht)
theorem sync_lim {n m : Nat} {s : St} (h : Lim n m s) (nm : Nm) : Lim (n + 1) m (s.sync nm).1 := by
  refine sy_lim h (fun t ht => ?_)
  unfold actSync
  split
  · exact ht
  · exact set_lim ht _ _ (Nat.le_refl _) (getD_len ht _)
theorem cuts_len : ∀ (d : Dir) (ks : List Int) (F : List Fil), (cuts F d ks).length = F.length
  | [], _, _ => rfl
  | p :: d, ks, F => by
    rw [cuts, cuts_len d]
    simp
theorem cuts_bytes {m : Nat} : ∀ (d : Dir) (ks : List Int) (F : List Fil), (∀ f ∈ F, f.b.length ≤ m) → ∀ f ∈ cuts F d ks, f.b.length ≤ m
  | [], _, _, h => h
  | p :: d, ks, F, h => by
    rw [cuts]
    refine cuts_bytes d _ _ (fun f hf => ?_)
    rcases List.mem_or_eq_of_mem_set hf with hf | rfl
    · exact h f hf
    · unfold Fil.cut
      simp only [List.length_take]
      have : (F.getD p.2 nofil).b.length ≤ m := by
        rw [List.getD_eq_getElem?_getD]
        cases hg : F[p.2]? with
        | none => exact Nat.zero_le _
        | some f => exact h f (List.mem_of_getElem? hg)
      omega
theorem crash_lim {n m : Nat} {s : St} (h : Lim n m s) (dir : Int) (ks : List Int) : Lim n m (s.crash dir ks) := by
  have h2 := h.dirs
  have h5 := redo_length (s.pend.take (modn dir (s.pend.length + 1))) s.last
  have h6 : (s.pend.take (modn dir (s.pend.length + 1))).length ≤ s.pend.length := by simp; omega
  refine ⟨h.s0, h.s1, ?_, ?_, ?_, ?_, by simp [St.crash], by simp [St.crash], h.room⟩
  · simp only [St.crash, List.length_nil]; omega
  · simp only [St.crash]; omega
  · simp only [St.crash, cuts_len]; exact h.files
  · exact cuts_bytes _ _ _ h.bytes
theorem restore_lim {n m : Nat} {s : St} (h : Lim n m s) : Lim n m s.restore := ⟨h.s0, h.s1, h.dirs, h.nowl, h.files, h.bytes, h.fuse, h.bad, h.room⟩
theorem new_lim (room : Int) (hr : room ≤ 9223372036854775807) : Lim 0 0 (St.new room) :=
  ⟨by simp [St.new], by simp [St.new], by simp [St.new], by simp [St.new], by simp [St.new], by simp [St.new], by simp [St.new], by simp [St.new], hr⟩
theorem Coh.of {s s' : St} (h : Coh s) (e1 : s'.now = s.now) (e2 : s'.last = s.last) (e3 : s'.pend = s.pend) : Coh s' := ⟨by rw [e2, e3]; exact h.able, by rw [e1, e2, e3]; exact h.now⟩
theorem doing_coh {s : St} (h : Coh s) {c : Chg} (ha : c.able s.now) : Coh (s.doing c) :=
  ⟨(able_snoc _ _ _).2 ⟨h.able, by show c.able (redo s.last s.pend); rw [← h.now]; exact ha⟩, by show c.run s.now = redo s.last (s.pend ++ [c]); rw [redo_snoc, ← h.now]⟩
theorem wr_coh {s : St} {act : St → St × Int} (h : Coh s) (hact : ∀ t : St, Coh t → Coh (act t).1) : Coh (wr s act).1 := by
  unfold wr
  split
  · exact hact _ (h.of rfl rfl rfl)
  · exact h
theorem sy_coh {s : St} {act : St → St × Int} (h : Coh s) (hact : ∀ t : St, Coh t → Coh (act t).1) : Coh (sy s act).1 := by
  unfold sy
  split
  · split
    · split
      · exact h.of rfl rfl rfl
      · exact hact _ (h.of rfl rfl rfl)
    · exact h.of rfl rfl rfl
  · exact h
theorem create_coh {s : St} (h : Coh s) (nm : Nm) : Coh (s.create nm).1 := by
  refine wr_coh h (fun t ht => ?_)
  unfold actCreate
  split
  · split
    · exact ht
    · exact doing_coh (s := t.more) (ht.of rfl rfl rfl) (.inr (by simp [Chg.file]))
  · exact ht
theorem append_coh {s : St} (h : Coh s) (nm : Nm) (d : List UInt8) : Coh (s.append nm d).1 := by
  refine wr_coh h (fun t ht => ?_)
  unfold actAppend
  split
  · exact ht
  · split
    · exact ht
    · exact ht.of rfl rfl rfl
theorem rename_coh {s : St} (h : Coh s) (hw : ∀ p ∈ s.now, isNm p.1 = true) (a b : Nm) : Coh (s.rename a b).1 := by
  have ht : Coh s.begun := h.of rfl rfl rfl
  unfold St.rename wr
  split
  · show Coh (actRename a b s.begun).1
    unfold actRename
    split
    · rename_i hs
      split
      · split
        · exact ht
        · obtain ⟨i, hi⟩ := Option.isSome_iff_exists.1 hs
          have ha := nm_ne (hw _ (mem_of_dget (l := s.now) hi))
          exact doing_coh ht (.inr (by simp only [Chg.file, if_neg ha]; exact hs))
      · exact ht
    · exact ht
  · exact h
theorem remove_coh {s : St} (h : Coh s) (a : Nm) : Coh (s.remove a).1 := by
  refine wr_coh h (fun t ht => ?_)
  unfold actRemove
  split
  · exact doing_coh ht (.inl rfl)
  · exact ht
theorem settle_coh (s : St) : Coh s.settle := ⟨trivial, rfl⟩
theorem syncDir_coh {s : St} (h : Coh s) : Coh s.syncDir.1 := sy_coh h (fun t _ => settle_coh t)
theorem sync_coh {s : St} (h : Coh s) (nm : Nm) : Coh (s.sync nm).1 := by
  refine sy_coh h (fun t ht => ?_)
  unfold actSync
  split
  · exact ht
  · exact ht.of rfl rfl rfl
theorem crash_coh (s : St) (dir : Int) (ks : List Int) : Coh (s.crash dir ks) := ⟨trivial, rfl⟩
theorem restore_coh {s : St} (h : Coh s) : Coh s.restore := h.of rfl rfl rfl
theorem new_coh (room : Int) : Coh (St.new room) := ⟨trivial, rfl⟩
end Go.Proofs.YtfndlfnlepndmaaGreat

namespace Go.Proofs.YtfndlfnlepndmaaGreat
open Go.RowKit

/-- At p lies a System in state s, all of it from block B on. -/
def Has (B p n m : Nat) (s : St) (w : World) : Prop := ∃ r, Sys w r s ∧ r.p = p ∧ (∀ k ∈ r.foot, B ≤ k) ∧ Lim n m s ∧ Coh s
section
variable {B p n m : Nat} {s : St} {w : World}
theorem Has.size (h : Has B p n m s w) : B ≤ w.heap.size := by
  obtain ⟨r, h1, -, h3, -⟩ := h
  have a := h3 r.p (by simp [Rep.foot])
  have b := h1.lt r.p (by simp [Rep.foot])
  omega
theorem Has.next {w' : World} {r : Rep} {s' : St} {n' m' : Nat} (hB : B ≤ w.heap.size) (hf : ∀ k ∈ r.foot, B ≤ k) (hp : r.p = p) (h : Next w r s' w') (hl : Lim n' m' s') (hc : Coh s') : Has B p n' m' s' w' ∧ Below B w w' := by
  obtain ⟨r', h1, h2, h3, h4⟩ := h
  refine ⟨⟨r', h1, h2.trans hp, fun k hk => ?_, hl, hc⟩, h3.below hB hf⟩
  rcases h4 k hk with h' | h'
  · exact hf k h'
  · omega
theorem Has.below {w' : World} (h : Has B p n m s w) (hb : Below w.heap.size w w') : Has B p n m s w' := by
  obtain ⟨r, h1, h2, h3, h4⟩ := h
  exact ⟨r, h1.below hb, h2, h3, h4⟩
theorem Has.drew (h : Has B p n m s w) : Has B p n m s w.drew := by
  obtain ⟨r, h1, h2, h3, h4⟩ := h
  exact ⟨r, h1.drew, h2, h3, h4⟩
theorem Has.up {n' m' : Nat} (h : Has B p n m s w) (hn : n ≤ n') (hm : m ≤ m') : Has B p n' m' s w := by
  obtain ⟨r, h1, h2, h3, h4, h5⟩ := h
  exact ⟨r, h1, h2, h3, h4.up hn hm, h5⟩
theorem has_new (room : Int) (hr : room ≤ 9223372036854775807) (w : World) : Calls Tryz.prog 6 #[.int .i64 room] w fun e w' => ∃ p, e = .returned (.pointer (some ⟨p, 0, none⟩)) ∧ Has w.heap.size p 0 0 (St.new room) w' ∧ Below w.heap.size w w' := by
  refine (new_any room w).mono ?_
  rintro e w' ⟨r, rfl, h1, h2, h3⟩
  exact ⟨r.p, rfl, ⟨r, h1, rfl, h3, new_lim room hr, new_coh room⟩, h2⟩
theorem has_create (h : Has B p n m s w) (hN : n ≤ 100000) (name : ByteArray) (hn : name.size ≤ maxLen) :
    Calls Tryz.prog 9 #[.pointer (some ⟨p, 0, none⟩), .string name] w fun e w' => e = .returned (.int .i64 (s.create name.data.toList).2) ∧ Has B p (n + 2) m (s.create name.data.toList).1 w' ∧ Below B w w' := by
  have hB := h.size
  obtain ⟨r, h1, rfl, h3, h4, h5⟩ := h
  refine (create_any h1 h4 hN name hn).mono ?_
  rintro e w' ⟨rfl, hn'⟩
  exact ⟨rfl, Has.next hB h3 rfl hn' (create_lim h4 _) (create_coh h5 _)⟩
theorem has_append (h : Has B p n m s w) (hN : n ≤ 100000) (name : ByteArray) (hn : name.size ≤ maxLen) (data : ByteArray) (hM : m ≤ 1000000000) (hD : data.size ≤ 1000000000) :
    Calls Tryz.prog 10 #[.pointer (some ⟨p, 0, none⟩), .string name, .string data] w fun e w' => e = .returned (.int .i64 (s.append name.data.toList data.data.toList).2) ∧ Has B p (n + 1) (m + data.size) (s.append name.data.toList data.data.toList).1 w' ∧ Below B w w' := by
  have hB := h.size
  obtain ⟨r, h1, rfl, h3, h4, h5⟩ := h
  refine (append_any h1 h4 hN name hn data (by unfold maxLen; omega) hM hD).mono ?_
  rintro e w' ⟨rfl, hn'⟩
  exact ⟨rfl, Has.next hB h3 rfl hn' (append_lim h4 _ data.data.toList) (append_coh h5 _ _)⟩
theorem has_rename (h : Has B p n m s w) (hN : n ≤ 100000) (a : ByteArray) (ha : a.size ≤ maxLen) (b : ByteArray) (hb : b.size ≤ maxLen) :
    Calls Tryz.prog 22 #[.pointer (some ⟨p, 0, none⟩), .string a, .string b] w fun e w' => e = .returned (.int .i64 (s.rename a.data.toList b.data.toList).2) ∧ Has B p (n + 2) m (s.rename a.data.toList b.data.toList).1 w' ∧ Below B w w' := by
  have hB := h.size
  obtain ⟨r, h1, rfl, h3, h4, h5⟩ := h
  refine (rename_any h1 h4 hN a ha b hb).mono ?_
  rintro e w' ⟨rfl, hn'⟩
  exact ⟨rfl, Has.next hB h3 rfl hn' (rename_lim h4 _ _) (rename_coh h5 h1.wf.nnms _ _)⟩
theorem has_remove (h : Has B p n m s w) (hN : n ≤ 100000) (name : ByteArray) (hn : name.size ≤ maxLen) :
    Calls Tryz.prog 11 #[.pointer (some ⟨p, 0, none⟩), .string name] w fun e w' => e = .returned (.int .i64 (s.remove name.data.toList).2) ∧ Has B p (n + 2) m (s.remove name.data.toList).1 w' ∧ Below B w w' := by
  have hB := h.size
  obtain ⟨r, h1, rfl, h3, h4, h5⟩ := h
  refine (remove_any h1 h4 hN name hn).mono ?_
  rintro e w' ⟨rfl, hn'⟩
  exact ⟨rfl, Has.next hB h3 rfl hn' (remove_lim h4 _) (remove_coh h5 _)⟩
theorem has_sync (h : Has B p n m s w) (hN : n ≤ 100000) (name : ByteArray) (hn : name.size ≤ maxLen) :
    Calls Tryz.prog 41 #[.pointer (some ⟨p, 0, none⟩), .string name] w fun e w' => e = .returned (.int .i64 (s.sync name.data.toList).2) ∧ Has B p (n + 1) m (s.sync name.data.toList).1 w' ∧ Below B w w' := by
  have hB := h.size
  obtain ⟨r, h1, rfl, h3, h4, h5⟩ := h
  refine (sync_any h1 h4 hN name hn).mono ?_
  rintro e w' ⟨rfl, hn'⟩
  exact ⟨rfl, Has.next hB h3 rfl hn' (sync_lim h4 _) (sync_coh h5 _)⟩
theorem has_syncDir (h : Has B p n m s w) (hN : n ≤ 100000) :
    Calls Tryz.prog 21 #[.pointer (some ⟨p, 0, none⟩)] w fun e w' => e = .returned (.int .i64 s.syncDir.2) ∧ Has B p (n + 1) m s.syncDir.1 w' ∧ Below B w w' := by
  have hB := h.size
  obtain ⟨r, h1, rfl, h3, h4, h5⟩ := h
  refine (syncDir_any h1 h4 hN).mono ?_
  rintro e w' ⟨rfl, hn'⟩
  exact ⟨rfl, Has.next hB h3 rfl hn' (syncDir_lim h4) (syncDir_coh h5)⟩
theorem has_restore (h : Has B p n m s w) :
    Calls Tryz.prog 23 #[.pointer (some ⟨p, 0, none⟩)] w fun e w' => e = .returned (.tuple #[]) ∧ Has B p n m s.restore w' ∧ Below B w w' := by
  have hB := h.size
  obtain ⟨r, h1, rfl, h3, h4, h5⟩ := h
  refine (restore_any h1).mono ?_
  rintro e w' ⟨rfl, hn'⟩
  exact ⟨rfl, Has.next hB h3 rfl hn' (restore_lim h4) (restore_coh h5)⟩
/-- Numbers that are handed in, in one block that is no part of what lies from B on, or in none. -/
theorem has_crash (h : Has B p n m s w) (hN : n ≤ 100000) (hM : m ≤ 1000000000) (dir : Int) (kv : Value) (ks : List Int) (hks : ∀ r, Sys w r s → KeepAt w r.foot kv ks) :
    Calls Tryz.prog 12 #[.pointer (some ⟨p, 0, none⟩), .int .i64 dir, kv] w fun e w' => e = .returned (.tuple #[]) ∧ Has B p n m (s.crash dir ks) w' ∧ Below B w w' := by
  have hB := h.size
  obtain ⟨r, h1, rfl, h3, h4, h5⟩ := h
  refine (crash_any h1 h4 hN hM h5 dir kv ks (hks r h1)).mono ?_
  rintro e w' ⟨rfl, hn'⟩
  exact ⟨rfl, Has.next hB h3 rfl hn' (crash_lim h4 _ _) (crash_coh _ _ _)⟩
/-- One number, just laid. -/
theorem has_crash1 (h : Has B p n m s w) (hN : n ≤ 100000) (hM : m ≤ 1000000000) (dir k : Int) :
    Calls Tryz.prog 12 #[.pointer (some ⟨p, 0, none⟩), .int .i64 dir, .slice (some ⟨w.heap.size, 0, none⟩) 1 1] (w.alloc (.cells #[.int .i64 k] 3)) fun e w' => e = .returned (.tuple #[]) ∧ Has B p n m (s.crash dir [k]) w' ∧ Below B w w' := by
  have hB := h.size
  obtain ⟨r, h1, rfl, h3, h4, h5⟩ := h
  have hb : Below w.heap.size w (w.alloc (.cells #[.int .i64 k] 3)) := (Below.refl _ _).alloc (Nat.le_refl _) _
  refine (crash_any (h1.below hb) h4 hN hM h5 dir _ [k] ⟨some ⟨w.heap.size, 0, none⟩, 1, rfl, by unfold maxLen; omega, Nat.le_refl _, fun i hi => ⟨w.heap.size, 0, rfl, fun hm => Nat.lt_irrefl _ (h1.lt _ hm), ?_⟩⟩).mono ?_
  · obtain rfl : i = 0 := by simp at hi; omega
    exact ncell rfl rfl
  rintro e w' ⟨rfl, hn'⟩
  have hx := Has.next (B := B) (p := r.p) (by simp; omega) h3 rfl hn' (crash_lim h4 _ _) (crash_coh _ _ _)
  exact ⟨rfl, hx.1, (hb.mono hB).trans hx.2⟩
theorem has_crash0 (h : Has B p n m s w) (hN : n ≤ 100000) (hM : m ≤ 1000000000) (dir : Int) :
    Calls Tryz.prog 12 #[.pointer (some ⟨p, 0, none⟩), .int .i64 dir, .slice none 0 0] w fun e w' => e = .returned (.tuple #[]) ∧ Has B p n m (s.crash dir []) w' ∧ Below B w w' :=
  has_crash h hN hM dir _ [] (fun _ _ => keep_nil _ _)
theorem has_read (h : Has B p n m s w) (name : ByteArray) (hn : name.size ≤ maxLen) :
    Calls Tryz.prog 16 #[.pointer (some ⟨p, 0, none⟩), .string name] w fun e w' => e = .returned (readV (s.read name.data.toList)) ∧ w = w' := by
  obtain ⟨r, h1, rfl, -⟩ := h
  exact read_any h1 name hn
theorem has_names (h : Has B p n m s w) (hN : n ≤ 1000000) :
    Calls Tryz.prog 15 #[.pointer (some ⟨p, 0, none⟩)] w fun e w' => ∃ v, e = .returned v ∧ Row w' 9 1 v s.names.length (nmVals s.names) ∧ Has B p n m s w' ∧ Below w.heap.size w w' := by
  have h0 := h
  obtain ⟨r, h1, rfl, -, h4, -⟩ := h
  refine (namesS_any h1 h4 hN).mono ?_
  rintro e w' ⟨v, rfl, hr, hb, -⟩
  exact ⟨v, rfl, hr, h0.below hb, hb⟩
theorem has_steps (h : Has B p n m s w) : Calls Tryz.prog 24 #[.pointer (some ⟨p, 0, none⟩)] w fun e w' => e = .returned (.int .i64 s.steps) ∧ w = w' := by
  obtain ⟨r, h1, rfl, -⟩ := h
  exact steps_any h1
theorem has_on (h : Has B p n m s w) : Calls Tryz.prog 52 #[.pointer (some ⟨p, 0, none⟩)] w fun e w' => e = .returned (.bool s.on) ∧ w = w' := by
  obtain ⟨r, h1, rfl, -⟩ := h
  exact on_at _ _ _ h1.c1
theorem has_used (h : Has B p n m s w) (hN : n ≤ 1000000) (hM : m ≤ 1000000000) : Calls Tryz.prog 33 #[.pointer (some ⟨p, 0, none⟩)] w fun e w' => e = .returned (.int .i64 (used s.files s.now : Nat)) ∧ Has B p n m s w' ∧ Below w.heap.size w w' := by
  have h0 := h
  obtain ⟨r, h1, rfl, -, h4, -⟩ := h
  refine (used_any h1 h4 hN hM).mono ?_
  rintro e w' ⟨rfl, hb⟩
  exact ⟨rfl, h0.below hb, hb⟩
theorem has_fuse (h : Has B p n m s w) (k : Int) (hk : k ≤ 9223372036854775807) : Calls Tryz.prog 46 #[.pointer (some ⟨p, 0, none⟩), .int .i64 k] w fun e w' => e = .returned (.tuple #[]) ∧ Has B p n m { s with fuse := k } w' ∧ Below B w w' := by
  have hB := h.size
  obtain ⟨r, h1, rfl, h3, h4, h5⟩ := h
  refine (fuse_any h1 k).mono ?_
  rintro e w' ⟨rfl, hn'⟩
  exact ⟨rfl, Has.next hB h3 rfl hn' ⟨h4.s0, h4.s1, h4.dirs, h4.nowl, h4.files, h4.bytes, hk, h4.bad, h4.room⟩ (h5.of rfl rfl rfl)⟩
theorem has_bad (h : Has B p n m s w) (k : Int) (hk : k ≤ 9223372036854775807) : Calls Tryz.prog 47 #[.pointer (some ⟨p, 0, none⟩), .int .i64 k] w fun e w' => e = .returned (.tuple #[]) ∧ Has B p n m { s with bad := k } w' ∧ Below B w w' := by
  have hB := h.size
  obtain ⟨r, h1, rfl, h3, h4, h5⟩ := h
  refine (bad_any h1 k).mono ?_
  rintro e w' ⟨rfl, hn'⟩
  exact ⟨rfl, Has.next hB h3 rfl hn' ⟨h4.s0, h4.s1, h4.dirs, h4.nowl, h4.files, h4.bytes, h4.fuse, hk, h4.room⟩ (h5.of rfl rfl rfl)⟩
end
end Go.Proofs.YtfndlfnlepndmaaGreat
