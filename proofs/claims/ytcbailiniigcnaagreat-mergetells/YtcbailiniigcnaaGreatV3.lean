/- The document's own All; lists of lists of versions. -/
import Derived.Test.YtcbailiniigcnaaGreatP14
import Derived.Lib.Hide
namespace Go.Proofs.YtcbailiniigcnaaGreat
open Go.RowKit

/-- Lists of versions that can be read. -/
def LsAt (w : World) (a : Option Addr) (n : Nat) (ls : List (List Ent)) : Prop :=
  ls.length = n ∧ (n = 0 ∨ ∃ b off, a = some ⟨b, off, none⟩ ∧ b < w.heap.size ∧ ∀ i (h : i < ls.length), ∃ ai ci, w.cell? ⟨b, off + i, none⟩ = some (.slice ai ls[i].length ci) ∧ EntsAt w.heap.size w ai ls[i].length ls[i] ∧ ls[i].length ≤ ci)
theorem LsAt.below {w w' : World} {a : Option Addr} {n : Nat} {ls : List (List Ent)} (h : LsAt w a n ls) (hb : Below w.heap.size w w') : LsAt w' a n ls := by
  refine ⟨h.1, ?_⟩
  rcases h.2 with h0 | ⟨b, off, e, hlt, hc⟩
  · exact .inl h0
  · refine .inr ⟨b, off, e, Nat.lt_of_lt_of_le hlt hb.size, fun i hi => ?_⟩
    obtain ⟨ai, ci, h1, h2, h3⟩ := hc i hi
    exact ⟨ai, ci, (hb.cell (p := ⟨b, off + i, none⟩) hlt).trans h1, (h2.below hb).mono hb.size, h3⟩
theorem insE_cut {x : Ent} : ∀ {es P Q : List Ent}, CutE x es P Q → (thereE x Q = true → insE es x = es) ∧ (thereE x Q = false → insE es x = P ++ x :: Q) := by
  intro es P
  induction P generalizing es with
  | nil =>
    intro Q h
    obtain rfl : es = Q := h.all
    cases es with
    | nil => exact ⟨(fun h => by cases h), fun _ => rfl⟩
    | cons y r =>
      have hn := h.behind y (by simp)
      unfold ltE at hn
      unfold thereE insE
      rw [if_neg hn]
      constructor
      · intro h1
        rw [if_pos (by simpa using h1)]
      · intro h1
        rw [if_neg (by simpa using h1)]
        rfl
  | cons y P ih =>
    intro Q h
    obtain rfl : es = y :: (P ++ Q) := h.all
    have hy := h.ahead y (by simp)
    unfold ltE at hy
    have h2 : CutE x (P ++ Q) P Q := ⟨rfl, fun z hz => h.ahead z (List.mem_cons_of_mem _ hz), h.behind⟩
    obtain ⟨i1, i2⟩ := ih h2
    unfold insE
    rw [if_pos hy]
    exact ⟨fun h => by rw [i1 h], fun h => by rw [i2 h]; rfl⟩
/-- A row of versions of the call's own (none: nil). -/
structure OwnE (B : Nat) (w : World) (v : Value) (l : List Ent) : Prop where
  row : Row w 56 4 v l.length (cellsE l)
  nil : l = [] → v = .slice none 0 0
  new : ∀ b, ob v = some b → B ≤ b
theorem flat_take (ls : List (List Ent)) (i : Nat) (h : i < ls.length) : (ls.take (i + 1)).flatten = (ls.take i).flatten ++ ls[i] := by
  have e : ls.take (i + 1) = ls.take i ++ [ls[i]] := by rw [List.take_add_one, List.getElem?_eq_getElem h]; rfl
  rw [e, List.flatten_append]
  simp
theorem ent_take (l : List Ent) (k : Nat) (h : k < l.length) : l.take (k + 1) = l.take k ++ [l[k]] := by
  rw [List.take_add_one, List.getElem?_eq_getElem h]
  rfl
set_option maxHeartbeats 8000000 in
set_option maxRecDepth 100000 in
theorem rall_any (a : Option Addr) (n cap : Nat) (ls : List (List Ent)) (w : World) (hL : LsAt w a n ls) (hn : n ≤ 1000) (hl : ls.flatten.length ≤ 50000) (hok : ∀ l ∈ ls, ∀ x ∈ l, x.k.size ≤ 9223372036854775807) :
    Calls Tryz.prog 10 #[.slice a n cap] w fun e w' => ∃ v, e = .returned v ∧ OwnE w.heap.size w' v (allE ls.flatten) ∧ Below w.heap.size w w' := by
  have HL := Lib.hid hL
  have HOK := Lib.hid hok
  have HLL := Lib.hid hl
  obtain rfl : ls.length = n := hL.1
  clear hL hok hl
  go_enter Tryz.func10, Tryz.ntmps10
  go_wp2_with fail
  go_loopw [3, 4] (fun ov iv wr => ∃ (i : Nat) (V : Value), V = ov ∧ iv = .int .i64 (i : Int) ∧ i ≤ ls.length ∧ Hid (OwnE w.heap.size wr V (allE (ls.take i).flatten)) ∧ Hid (Below w.heap.size w wr)) (fun _ iv _ => ls.length - (intOf iv).toNat)
  case atStart => exact ⟨0, _, rfl, rfl, Nat.zero_le _, Lib.hid ⟨row_nil _ _ _, fun _ => rfl, fun b hb => none_ne hb⟩, Lib.hid (Below.refl _ _)⟩
  case round =>
    obtain ⟨i, V, rfl, rfl, hi, HO, HB⟩ := hrel
    obtain ⟨wo, hwo⟩ : ∃ wo, wo = wr := ⟨wr, rfl⟩
    subst hwo
    by_cases hlt : i < ls.length
    · have hli : (i : Int) < (ls.length : Int) := by omega
      obtain ⟨b, off, rfl, hbl, ai, ci, hc, hE⟩ : ∃ b off, a = some ⟨b, off, none⟩ ∧ b < w.heap.size ∧ ∃ ai ci, w.cell? ⟨b, off + i, none⟩ = some (.slice ai (ls[i]'hlt).length ci) ∧ EntsAt w.heap.size w ai (ls[i]'hlt).length (ls[i]'hlt) := by
        rcases HL.out.2 with h0 | ⟨b, off, e, h1, h2⟩
        · omega
        · obtain ⟨ai, ci, h3, h4, -⟩ := h2 i hlt
          exact ⟨b, off, e, h1, ai, ci, h3, h4⟩
      obtain ⟨L, hLe⟩ : ∃ L, ls[i]'hlt = L := ⟨_, rfl⟩
      have HFT := Lib.hid (flat_take ls i hlt)
      have hLk : ∀ x ∈ L, x.k.size ≤ 9223372036854775807 := by rw [← hLe]; exact HOK.out _ (List.getElem_mem hlt)
      have hLlen : ((ls.take i).flatten).length + L.length ≤ 50000 := by
        have h1 := HLL.out
        have h2 : ls.flatten = (ls.take (i + 1)).flatten ++ (ls.drop (i + 1)).flatten := by rw [← List.flatten_append, List.take_append_drop]
        rw [h2, List.length_append, HFT.out, List.length_append, hLe] at h1
        omega
      have HFK := Lib.hid (show ∀ x ∈ (ls.take i).flatten, x.k.size ≤ 9223372036854775807 from fun x hx => by
        obtain ⟨l, hl1, hl2⟩ := List.mem_flatten.1 hx
        exact HOK.out l (List.mem_of_mem_take hl1) x hl2)
      rw [hLe] at hc hE HFT
      have HE := Lib.hid hE
      have HC := Lib.hid hc
      have HLK := Lib.hid hLk
      clear hc hE hLk hLe
      go_wp2_with fail
      go_loopw [3, 5] (fun ov kv wr => ∃ (k : Nat) (V : Value), V = ov ∧ kv = .int .i64 (k : Int) ∧ k ≤ L.length ∧ Hid (OwnE w.heap.size wr V (allE ((ls.take i).flatten ++ L.take k))) ∧ Hid (Below w.heap.size w wr)) (fun _ kv _ => L.length - (intOf kv).toNat)
      case atStart => exact ⟨0, _, rfl, rfl, Nat.zero_le _, by rw [List.take_zero, List.append_nil]; exact HO, HB⟩
      case round =>
        obtain ⟨k, V2, rfl, rfl, hk, HO2, HB2⟩ := hrel
        have q0 : wr.cell? ⟨b, off + i, none⟩ = some (.slice ai L.length ci) := (HB2.out.cell (p := ⟨b, off + i, none⟩) hbl).trans HC.out
        by_cases hkl : k < L.length
        · have hkli : (k : Int) < (L.length : Int) := by omega
          obtain ⟨bi, oi, rfl, hbi, hcell⟩ : ∃ bi oi, ai = some ⟨bi, oi, none⟩ ∧ bi < w.heap.size ∧ ∀ j u, (L[k]'hkl).cells[j]? = some u → w.cell? ⟨bi, oi + k * 4 + j, none⟩ = some u := by
            rcases HE.out.2 with h0 | ⟨bi, oi, e, h1, h2⟩
            · omega
            · exact ⟨bi, oi, e, h1, h2 k hkl⟩
          obtain ⟨X, hX⟩ : ∃ X, L[k]'hkl = X := ⟨_, rfl⟩
          have HTK := Lib.hid (ent_take L k hkl)
          have hxk : X.k.size ≤ 9223372036854775807 := by rw [← hX]; exact HLK.out _ (List.getElem_mem hkl)
          rw [hX] at hcell HTK
          obtain ⟨O, hO⟩ : ∃ O, allE ((ls.take i).flatten ++ L.take k) = O := ⟨_, rfl⟩
          have hOl : O.length ≤ 50000 := by
            rw [← hO]
            refine Nat.le_trans (allE_length _) ?_
            rw [List.length_append, List.length_take]
            omega
          have hOs : O.Pairwise ltE := by rw [← hO]; exact allE_sorted _
          have hOk : ∀ y ∈ O, y.k.size ≤ 9223372036854775807 := fun y hy => by
            rw [← hO] at hy
            rcases List.mem_append.1 ((allE_mem _ y).1 hy).mem with h | h
            · exact HFK.out y h
            · exact HLK.out y (List.mem_of_mem_take h)
          have hNX : allE ((ls.take i).flatten ++ L.take (k + 1)) = insE O X := by rw [HTK.out, ← List.append_assoc, allE_snoc, hO]
          rw [hO] at HO2
          obtain ⟨P, Q, hcut⟩ := cutE_of X O hOs
          obtain ⟨i1, i2⟩ := insE_cut hcut
          have CI := Lib.hid (insert_any V2 O P Q X wr HO2.out.row HO2.out.nil (by omega) hcut hOk hxk)
          obtain ⟨xk, xs, xn, xv⟩ := X
          have r0 : wr.cell? ⟨bi, oi + k * 4, none⟩ = some (.string xk) := (HB2.out.cell (p := ⟨bi, _, none⟩) hbi).trans (hcell 0 _ rfl)
          have r1 : wr.cell? ⟨bi, oi + k * 4 + 1, none⟩ = some (.int .u64 xs) := (HB2.out.cell (p := ⟨bi, _, none⟩) hbi).trans (hcell 1 _ rfl)
          have r2 : wr.cell? ⟨bi, oi + k * 4 + 2, none⟩ = some (.int .i64 xn) := (HB2.out.cell (p := ⟨bi, _, none⟩) hbi).trans (hcell 2 _ rfl)
          have r3 : wr.cell? ⟨bi, oi + k * 4 + 3, none⟩ = some (.string xv) := (HB2.out.cell (p := ⟨bi, _, none⟩) hbi).trans (hcell 3 _ rfl)
          have HI := Lib.hid (And.intro hNX (And.intro i1 (And.intro i2 hcut)))
          clear hcell hX hO hOl hOs hOk hNX hcut i1 i2 hxk
          simp only at CI
          go_wp2_with fail
          go_at_call 24
          (with_reducible refine CI.out.mono ?_)
          rintro _ w2 ⟨b2, ⟨ht, rfl⟩ | ⟨ht, v', rfl, hrow, hnew⟩⟩
          · have HN := Lib.hid (show OwnE w.heap.size w2 V2 (allE ((ls.take i).flatten ++ L.take (k + 1))) from by
              rw [HI.out.1, HI.out.2.1 ht]
              exact ⟨row_below HO2.out.row b2, HO2.out.nil, HO2.out.new⟩)
            have HBN := Lib.hid (HB2.out.trans (b2.mono HB2.out.size))
            clear b2 ht CI
            go_wp2_with fail
            go_roundw
            case rel => exact ⟨k + 1, V2, rfl, by go_num, by omega, HN, HBN⟩
            case measure => simp [intOf]; omega
          · have HN := Lib.hid (show OwnE w.heap.size w2 v' (allE ((ls.take i).flatten ++ L.take (k + 1))) from by
              rw [HI.out.1, HI.out.2.2.1 ht]
              have hlen : (P ++ (⟨xk, xs, xn, xv⟩ : Ent) :: Q).length = O.length + 1 := by rw [HI.out.2.2.2.all]; simp; omega
              exact ⟨by rw [hlen]; exact hrow, fun h => by simp at h, fun q hq => Nat.le_trans HB2.out.size (hnew q hq)⟩)
            have HBN := Lib.hid (HB2.out.trans (b2.mono HB2.out.size))
            clear b2 ht CI hrow hnew
            go_wp2_with fail
            go_roundw
            case rel => exact ⟨k + 1, v', rfl, by go_num, by omega, HN, HBN⟩
            case measure => simp [intOf]; omega
        · obtain rfl : k = L.length := by omega
          have HN := Lib.hid (show OwnE w.heap.size wr V2 (allE (ls.take (i + 1)).flatten) from by
            rw [HFT.out]
            have := HO2.out
            rwa [List.take_length] at this)
          clear HO2
          go_wp2_with fail
          go_roundw
          case rel => exact ⟨i + 1, V2, rfl, by go_num, by omega, HN, HB2⟩
          case measure => simp [intOf]; omega
    · obtain rfl : i = ls.length := by omega
      have h1 := HO.out
      rw [List.take_length] at h1
      have HO1 := Lib.hid h1
      clear h1 HO
      go_wp2_with fail
      go_ret
      exact ⟨V, rfl, HO1.out, HB.out⟩
end Go.Proofs.YtcbailiniigcnaaGreat
