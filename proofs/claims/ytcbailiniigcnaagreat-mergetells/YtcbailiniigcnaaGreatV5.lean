/- The document's own Cut. -/
import Derived.Test.YtcbailiniigcnaaGreatV4
namespace Go.Proofs.YtcbailiniigcnaaGreat
open Go.ChangeShapes Go.WideShapes Go.ChangeAt Go.Deep Go.RowKit

theorem infoL14 : (Tryz.prog.info? 26).map (fun i => (i.zero, i.size, i.bytes)) = some (some (.slice none 0 0), 1, 24) := by kernel_rfl
/-- Pieces told, and the one that is being made: rows of blocks of their own, each. -/
structure CutI (B : Nat) (w : World) (O V : Value) (vs : List Value) (D : List (List Ent)) (q : List Ent) : Prop where
  out : Row w 26 1 O vs.length vs
  piece : Row w 56 4 V q.length (cellsE q)
  len : vs.length = D.length
  rows : ∀ (j : Nat) (v : Value) (d : List Ent), vs[j]? = some v → D[j]? = some d → Row w 56 4 v d.length (cellsE d)
  newO : ∀ b, ob O = some b → B ≤ b
  newV : ∀ b, ob V = some b → B ≤ b
  sepOV : ∀ b, ob O = some b → ob V ≠ some b
  sepO : ∀ b, ob O = some b → ∀ v ∈ vs, ob v ≠ some b
  sepV : ∀ b, ob V = some b → ∀ v ∈ vs, ob v ≠ some b
  newR : ∀ v ∈ vs, ∀ b, ob v = some b → B ≤ b
  apart : vs.Pairwise fun u v => ob u = none ∨ ob u ≠ ob v
theorem rows_of {w : World} {vs : List Value} {D : List (List Ent)} (hl : vs.length = D.length) (h : ∀ (j : Nat) (v : Value) (d : List Ent), vs[j]? = some v → D[j]? = some d → Row w 56 4 v d.length (cellsE d)) {v : Value} (hv : v ∈ vs) : ∀ b, ob v = some b → b < w.heap.size := by
  obtain ⟨j, hj, rfl⟩ := List.mem_iff_getElem.1 hv
  exact (h j _ D[j] (List.getElem?_eq_getElem hj) (List.getElem?_eq_getElem (by omega))).lt
theorem CutI.below {B : Nat} {w w' : World} {O V : Value} {vs : List Value} {D : List (List Ent)} {q : List Ent} (h : CutI B w O V vs D q) (hb : Below w.heap.size w w') : CutI B w' O V vs D q :=
  ⟨row_below h.out hb, row_below h.piece hb, h.len, fun j v d h1 h2 => row_below (h.rows j v d h1 h2) hb, h.newO, h.newV, h.sepOV, h.sepO, h.sepV, h.newR, h.apart⟩
theorem CutI.put {B : Nat} {w w' : World} {O V V' : Value} {vs : List Value} {D : List (List Ent)} {q : List Ent} {x : Ent} (h : CutI B w O V vs D q) (hB : B ≤ w.heap.size) (hr : Row w' 56 4 V' (q.length + 1) (cellsE q ++ x.cells)) (hg : w.grownBy w' (ob V)) (ho : ob V' = ob V ∨ (ob V' = some w.heap.size ∧ w.grownBy w' none)) : CutI B w' O V' vs D (q ++ [x]) := by
  have hc : cellsE (q ++ [x]) = cellsE q ++ x.cells := by rw [cellsE_append]; simp [cellsE]
  refine ⟨h.out.kept fun k hk => hg.block k (h.out.lt k hk) (fun e => h.sepOV k hk e.symm), by rw [List.length_append, hc]; exact hr, h.len, fun j v d h1 h2 => (h.rows j v d h1 h2).kept fun k hk => hg.block k ((h.rows j v d h1 h2).lt k hk) (fun e => h.sepV k e.symm v (List.mem_of_getElem? h1) hk), h.newO, ob_new ho hB h.newV, fun b hb e => ?_, h.sepO, fun b hb v hv e => ?_, h.newR, h.apart⟩
  · rcases ho with ho | ⟨ho, -⟩
    · exact h.sepOV b hb (ho ▸ e)
    · rw [ho] at e
      cases e
      have := h.out.lt _ hb
      omega
  · rcases ho with ho | ⟨ho, -⟩
    · exact h.sepV b (ho ▸ hb) v hv e
    · rw [ho] at hb
      cases hb
      have := rows_of h.len h.rows hv _ e
      omega
theorem CutI.push {B : Nat} {w w' : World} {O V O' : Value} {vs : List Value} {D : List (List Ent)} {q : List Ent} (h : CutI B w O V vs D q) (hB : B ≤ w.heap.size) (hr : Row w' 26 1 O' (vs.length + 1) (vs ++ [V])) (hg : w.grownBy w' (ob O)) (ho : ob O' = ob O ∨ (ob O' = some w.heap.size ∧ w.grownBy w' none)) : CutI B w' O' (.slice none 0 0) (vs ++ [V]) (D ++ [q]) [] := by
  have hrow : ∀ (j : Nat) (v : Value) (d : List Ent), (vs ++ [V])[j]? = some v → (D ++ [q])[j]? = some d → Row w 56 4 v d.length (cellsE d) ∧ ∀ b, ob O = some b → ob v ≠ some b := fun j v d h1 h2 => by
    rw [List.getElem?_append] at h1 h2
    rw [h.len] at h1
    split at h1
    · rename_i hj
      rw [if_pos hj] at h2
      exact ⟨h.rows j v d h1 h2, fun b hb => h.sepO b hb v (List.mem_of_getElem? h1)⟩
    · rename_i hj
      rw [if_neg hj] at h2
      rw [List.getElem?_singleton] at h1 h2
      split at h1
      · rename_i h0
        rw [if_pos h0] at h2
        cases h1; cases h2
        exact ⟨h.piece, fun b hb => h.sepOV b hb⟩
      · cases h1
  have hmem : ∀ v ∈ vs ++ [V], (∀ b, ob v = some b → b < w.heap.size) ∧ ∀ b, ob O = some b → ob v ≠ some b := fun v hv => by
    obtain ⟨j, hj, rfl⟩ := List.mem_iff_getElem.1 hv
    obtain ⟨r1, r2⟩ := hrow j _ ((D ++ [q])[j]'(by simp at hj ⊢; have := h.len; omega)) (List.getElem?_eq_getElem hj) (List.getElem?_eq_getElem _)
    exact ⟨r1.lt, r2⟩
  refine ⟨by rw [List.length_append]; exact hr, row_nil _ _ _, by simp [h.len], fun j v d h1 h2 => (hrow j v d h1 h2).1.kept fun k hk => hg.block k ((hrow j v d h1 h2).1.lt k hk) (fun e => (hrow j v d h1 h2).2 k e.symm hk), ob_new ho hB h.newO, fun b hb => none_ne hb, fun b _ e => none_ne e, fun b hb v hv e => ?_, fun b hb => none_ne hb, fun v hv b hb => ?_, ?_⟩
  · rcases ho with ho | ⟨ho, -⟩
    · exact (hmem v hv).2 b (ho ▸ hb) e
    · rw [ho] at hb
      cases hb
      have := (hmem v hv).1 _ e
      omega
  · rcases List.mem_append.1 hv with hv | hv
    · exact h.newR v hv b hb
    · simp only [List.mem_singleton] at hv
      subst hv
      exact h.newV b hb
  · refine List.pairwise_append.2 ⟨h.apart, List.pairwise_singleton _ _, fun u hu v hv => ?_⟩
    simp only [List.mem_singleton] at hv
    subst hv
    cases hb : ob u with
    | none => exact .inl rfl
    | some b => exact .inr fun e => h.sepV b e.symm u hu hb
theorem CutI.told {B : Nat} {w : World} {O V : Value} {vs : List Value} {D : List (List Ent)} {q : List Ent} (h : CutI B w O V vs D q) : ∃ a c, O = .slice a D.length c ∧ LsAt w a D.length D := by
  obtain ⟨a, c, hv, -, -⟩ := h.out.le
  refine ⟨a, c, by rw [hv, h.len], rfl, ?_⟩
  rcases h.out.2 with ⟨h0, -⟩ | ⟨g, c', cur, hv', hg, -⟩
  · exact .inl (by rw [← h.len]; exact h0)
  · rw [hv] at hv'
    cases hv'
    refine .inr ⟨g, 0, rfl, (Array.getElem?_eq_some_iff.1 hg).1, fun i hi => ?_⟩
    have hi2 : i < vs.length := by rw [h.len]; exact hi
    have hr := h.rows i vs[i] D[i] (List.getElem?_eq_getElem hi2) (List.getElem?_eq_getElem hi)
    obtain ⟨ai, ci, he, hE, hle⟩ := row_ents2 hr
    have hc := h.out.cell g 0 _ hv i _ (List.getElem?_eq_getElem hi2)
    rw [he] at hc
    exact ⟨ai, ci, hc, hE, hle⟩
/-- Pieces told, each in a block of its own. -/
structure PiecesR (B : Nat) (w : World) (O : Value) (vs : List Value) (D : List (List Ent)) : Prop where
  out : Row w 26 1 O vs.length vs
  newO : ∀ b, ob O = some b → B ≤ b
  len : vs.length = D.length
  rows : ∀ (j : Nat) (v : Value) (d : List Ent), vs[j]? = some v → D[j]? = some d → Row w 56 4 v d.length (cellsE d)
  newR : ∀ v ∈ vs, ∀ b, ob v = some b → B ≤ b
  apart : vs.Pairwise fun u v => ob u = none ∨ ob u ≠ ob v
  sepO : ∀ b, ob O = some b → ∀ v ∈ vs, ob v ≠ some b
theorem CutI.pieces {B : Nat} {w : World} {O V : Value} {vs : List Value} {D : List (List Ent)} {q : List Ent} (h : CutI B w O V vs D q) : PiecesR B w O vs D := ⟨h.out, h.newO, h.len, h.rows, h.newR, h.apart, h.sepO⟩
theorem PiecesR.told {B : Nat} {w : World} {O : Value} {vs : List Value} {D : List (List Ent)} (h : PiecesR B w O vs D) : ∃ a c, O = .slice a D.length c ∧ LsAt w a D.length D := by
  obtain ⟨a, c, hv, -, -⟩ := h.out.le
  refine ⟨a, c, by rw [hv, h.len], rfl, ?_⟩
  rcases h.out.2 with ⟨h0, -⟩ | ⟨g, c', cur, hv', hg, -⟩
  · exact .inl (by rw [← h.len]; exact h0)
  · rw [hv] at hv'
    cases hv'
    refine .inr ⟨g, 0, rfl, (Array.getElem?_eq_some_iff.1 hg).1, fun i hi => ?_⟩
    have hi2 : i < vs.length := by rw [h.len]; exact hi
    have hr := h.rows i vs[i] D[i] (List.getElem?_eq_getElem hi2) (List.getElem?_eq_getElem hi)
    obtain ⟨ai, ci, he, hE, hle⟩ := row_ents2 hr
    have hc := h.out.cell g 0 _ hv i _ (List.getElem?_eq_getElem hi2)
    rw [he] at hc
    exact ⟨ai, ci, hc, hE, hle⟩
theorem cutS_cons (most : Int) (q : List Ent) (e : Ent) (r : List Ent) : cutS most q (e :: r) = if r = [] ∨ (most ≤ ((q ++ [e]).length : Int) ∧ (r.head?.map Ent.k) ≠ some e.k) then (q ++ [e]) :: cutS most [] r else cutS most (q ++ [e]) r := by
  conv => lhs; unfold cutS
set_option maxHeartbeats 8000000 in
set_option maxRecDepth 100000 in
theorem rcutR (most : Int) (a : Option Addr) (cap : Nat) (L : List Ent) (w : World) (hE : EntsAt w.heap.size w a L.length L) (hlen : L.length ≤ 50000) :
    Calls Tryz.prog 17 #[.int .i64 most, .slice a L.length cap] w fun e w' => ∃ O vs, e = .returned O ∧ PiecesR w.heap.size w' O vs (cutS most [] L) ∧ Below w.heap.size w w' := by
  obtain ⟨i0, hi0, hz0, hzs, hzb⟩ := info_parts infoE5
  obtain ⟨j0, hj0, hy0, hys, hyb⟩ := info_parts infoL14
  have HE := Lib.hid (reads_of hE)
  clear hE
  go_enter Tryz.func17, Tryz.ntmps17
  go_wp2_with fail
  go_loopw [5, 6, 7] (fun ov pv iv wr => ∃ (i : Nat) (O V : Value) (vs : List Value) (D : List (List Ent)) (q : List Ent), O = ov ∧ V = pv ∧ iv = .int .i64 (i : Int) ∧ i ≤ L.length ∧ Hid (D ++ cutS most q (L.drop i) = cutS most [] L) ∧ q.length ≤ i ∧ D.length ≤ i ∧ Hid (i = L.length → q = []) ∧ Hid (CutI w.heap.size wr O V vs D q) ∧ Hid (Below w.heap.size w wr)) (fun _ _ iv _ => L.length - (intOf iv).toNat)
  case atStart => exact ⟨0, _, _, [], [], [], rfl, rfl, rfl, Nat.zero_le _, Lib.hid rfl, Nat.le_refl _, Nat.le_refl _, Lib.hid (fun _ => rfl), Lib.hid ⟨row_nil _ _ _, row_nil _ _ _, rfl, fun j v d h => by simp at h, fun b hb => none_ne hb, fun b hb => none_ne hb, fun b hb => none_ne hb, fun b hb => none_ne hb, fun b hb => none_ne hb, (fun v hv => by cases hv), List.Pairwise.nil⟩, Lib.hid (Below.refl _ _)⟩
  case round =>
    obtain ⟨i, O, V, vs, D, q, rfl, rfl, rfl, hile, HD, hql, hDl, HQE, HI, HB⟩ := hrel
    obtain ⟨wo, hwo⟩ : ∃ wo, wo = wr := ⟨wr, rfl⟩
    subst hwo
    by_cases hlt : i < L.length
    · have hei := HE.out wo HB.out
      obtain ⟨b, off, rfl, hb, hcell⟩ : ∃ b off, a = some ⟨b, off, none⟩ ∧ b < w.heap.size ∧ Hid (∀ k (h : k < L.length) j u, L[k].cells[j]? = some u → ∀ W, Below w.heap.size w W → W.cell? ⟨b, off + k * 4 + j, none⟩ = some u) := by
        rcases HE.out w (Below.refl _ _) |>.2 with h0 | ⟨b, off, e, h1, h2⟩
        · omega
        · exact ⟨b, off, e, h1, fun k hk j u hu W hW => (hW.cell (p := ⟨b, _, none⟩) h1).trans (h2 k hk j u hu)⟩
      have hli : (i : Int) < (L.length : Int) := by omega
      have hdrop : L.drop i = L[i] :: L.drop (i + 1) := List.drop_eq_getElem_cons hlt
      have hci := hcell.out i hlt
      generalize L[i] = X at hci hdrop
      obtain ⟨xk, xs, xn, xv⟩ := X
      have HCI := Lib.hid hci
      have HDR := Lib.hid hdrop
      have q0 : wo.cell? ⟨b, off + i * 4, none⟩ = some (.string xk) := hci 0 _ rfl wo HB.out
      have q1 : wo.cell? ⟨b, off + i * 4 + 1, none⟩ = some (.int .u64 xs) := hci 1 _ rfl wo HB.out
      have q2 : wo.cell? ⟨b, off + i * 4 + 2, none⟩ = some (.int .i64 xn) := hci 2 _ rfl wo HB.out
      have q3 : wo.cell? ⟨b, off + i * 4 + 3, none⟩ = some (.string xv) := hci 3 _ rfl wo HB.out
      obtain ⟨W, hW⟩ : ∃ W, wo.alloc (.cells #[.string xk, .int .u64 xs, .int .i64 xn, .string xv] 56) = W := ⟨_, rfl⟩
      have HA6 := Lib.hid (below_alloc hW)
      have HI6 := Lib.hid (HI.out.below HA6.out)
      have HS6 := Lib.hid (show Src Tryz.prog 4 26 (.slice (some ⟨wo.heap.size, 0, none⟩) 1 1) 1 (Ent.cells ⟨xk, xs, xn, xv⟩) W by rw [← hW]; exact src_new ⟨xk, xs, xn, xv⟩ wo)
      have HBa := Lib.hid (show q.length + 1 ≤ maxLen by unfold maxLen; omega)
      have HBb := Lib.hid (show (q.length + 1) * 48 ≤ 140737488355328 by omega)
      clear hci hdrop hei
      go_wp2_with (at_builtin; refine wpList_append_row _ rfl _ _ 26 26 rfl 56 i0 _ 4 48 Tryz.underlying26 hi0 hz0 hzs hzb rfl V _ _ rfl HI6.out.piece _ rfl 1 _ HS6.out HBa.out HBb.out ?_)
      intro V5 w5 hrow5 hgrow5 hob5
      have hsz : w.heap.size ≤ W.heap.size := Nat.le_trans HB.out.size HA6.out.size
      have hI7 := HI6.out.put (x := ⟨xk, xs, xn, xv⟩) hsz hrow5 hgrow5 hob5
      have HB7 := Lib.hid (below_row (HB.out.trans (HA6.out.mono HB.out.size)) (Nat.le_refl _) hgrow5 HI6.out.newV)
      clear hsz hrow5 hgrow5 hob5 HI6 HS6 HA6 HI q0 q1 q2 q3 hW
      obtain ⟨Q1, hQ1⟩ : ∃ Q, q ++ [⟨xk, xs, xn, xv⟩] = Q := ⟨_, rfl⟩
      rw [hQ1] at hI7
      have HI7 := Lib.hid hI7
      have hQl : Q1.length = q.length + 1 := by rw [← hQ1]; simp
      have HQ1 := Lib.hid hQ1
      have HQl := Lib.hid hQl
      clear hI7 hQ1
      obtain ⟨a5, c5, rfl, -, -⟩ := HI7.out.piece.le
      obtain ⟨z, hz⟩ : ∃ z, z = L.length - 1 := ⟨_, rfl⟩
      have hlz : (L.length : Int) - 1 = (z : Int) := by omega
      have hwz : IntKind.i64.wrap ((L.length : Int) - 1) = (z : Int) := by rw [IntKind.wrap_i64]; omega
      have q0 : w5.cell? ⟨b, off + i * 4, none⟩ = some (.string xk) := HCI.out 0 _ rfl w5 HB7.out
      obtain ⟨H, hH⟩ : ∃ H, decide (L.drop (i + 1) = [] ∨ (most ≤ (Q1.length : Int) ∧ ((L.drop (i + 1)).head?.map Ent.k) ≠ some xk)) = H := ⟨_, rfl⟩
      have HH := Lib.hid hH
      have HDC := Lib.hid (show cutS most q (L.drop i) = if H = true then Q1 :: cutS most [] (L.drop (i + 1)) else cutS most Q1 (L.drop (i + 1)) by
        rw [HDR.out, cutS_cons, ← hH, ← HQ1.out]
        simp only [decide_eq_true_eq])
      have hQ5 : (Q1.length : Int) ≤ 50000 := by omega
      have HZ := Lib.hid hz
      clear hH hQl hz
      go_wp2_with fail
      go_cut [45] from 8 to 49 (fun tv wx => tv = .bool H ∧ Below w5.heap.size w5 wx)
      case first =>
        by_cases hlast : i = z
        · have hb1 : ((i : Int) == (z : Int)) = true := by simp; omega
          have hHt : H = true := by
            rw [← HH.out]
            have : L.drop (i + 1) = [] := List.drop_eq_nil_of_le (by have := HZ.out; omega)
            simp [this]
          go_wp2_with fail
          go_quiet (fail)
          go_wp2_with fail
          go_meet
          exact ⟨by rw [hHt], belowN (Below.refl _ _) _⟩
        · have hb1 : ((i : Int) == (z : Int)) = false := by simp; omega
          have hl1 : i + 1 < L.length := by have := HZ.out; omega
          have hdr1 : L.drop (i + 1) = L[i + 1] :: L.drop (i + 2) := List.drop_eq_getElem_cons hl1
          have hcn := hcell.out (i + 1) hl1
          generalize L[i + 1] = Y at hdr1 hcn
          obtain ⟨yk, ys, yn, yv⟩ := Y
          obtain ⟨m, hm⟩ : ∃ m, m = i + 1 := ⟨_, rfl⟩
          rw [← hm] at hcn
          have p0 : w5.cell? ⟨b, off + m * 4, none⟩ = some (.string yk) := hcn 0 _ rfl w5 HB7.out
          have hij : (i : Int) + 1 = (m : Int) := by omega
          have hwi : IntKind.i64.wrap ((i : Int) + 1) = (m : Int) := by rw [IntKind.wrap_i64]; omega
          have hmi : (m : Int) < (L.length : Int) := by omega
          obtain ⟨G2, hG2⟩ : ∃ G, decide (most ≤ (Q1.length : Int)) = G := ⟨_, rfl⟩
          obtain ⟨G3, hG3⟩ : ∃ G, (yk.toList != xk.toList) = G := ⟨_, rfl⟩
          have hHV : H = (G2 && G3) := by
            rw [← HH.out, hdr1, ← hG2, ← hG3]
            have hb : (yk.toList != xk.toList) = decide (yk ≠ xk) := by
              rw [bne, beq_dec]
              simp
            rw [hb]
            simp
          clear hm hcn hdr1
          cases G2 with
          | true =>
            go_wp2_with fail
            go_quiet (fail)
            go_wp2_with fail
            go_meet
            exact ⟨by rw [hHV, ← hG3]; rfl, belowN (Below.refl _ _) _⟩
          | false =>
            clear hG3
            go_wp2_with fail
            go_quiet (fail)
            go_wp2_with fail
            go_meet
            exact ⟨by rw [hHV]; rfl, belowN (Below.refl _ _) _⟩
      case rest =>
        obtain ⟨rfl, hbc⟩ := hcut
        have HIC := Lib.hid (HI7.out.below hbc)
        have HBC := Lib.hid (HB7.out.trans (hbc.mono HB7.out.size))
        clear hbc HI7 HB7 q0
        cases H with
        | false =>
          have HNE := Lib.hid (show i + 1 < L.length from by
            have h := of_decide_eq_false HH.out
            rcases Nat.lt_or_ge (i + 1) L.length with h1 | h1
            · exact h1
            · exact absurd (.inl (List.drop_eq_nil_of_le h1)) h)
          have HD2 := Lib.hid (show D ++ cutS most Q1 (L.drop (i + 1)) = cutS most [] L by
            have h := HD.out
            rw [HDC.out] at h
            exact h)
          go_wp2_with fail
          go_roundw
          case rel => exact ⟨i + 1, O, _, vs, D, Q1, rfl, rfl, by go_num, hlt, HD2, by have := HQl.out; omega, by omega, Lib.hid (fun h => by have := HNE.out; omega), HIC, HBC⟩
          case measure => simp [intOf]; omega
        | true =>
          have HD2 := Lib.hid (show (D ++ [Q1]) ++ cutS most [] (L.drop (i + 1)) = cutS most [] L by
            have h := HD.out
            rw [HDC.out, if_pos rfl] at h
            rw [List.append_assoc]
            exact h)
          obtain ⟨W2, hW2⟩ : ∃ W, wc.alloc (.cells #[.slice a5 Q1.length c5] 26) = W := ⟨_, rfl⟩
          have HA8 := Lib.hid (below_alloc hW2)
          have HI8 := Lib.hid (HIC.out.below HA8.out)
          have HS8 := Lib.hid (Src.ofSlice (P := Tryz.prog) W2 (size := 1) Tryz.underlying22 ⟨wc.heap.size, 0, none⟩ 1 1 [.slice a5 Q1.length c5] rfl (fun j u hu => by
            match j, hu with
            | 0, hu =>
              rw [← hW2]
              simp only [List.getElem?_cons_zero, Option.some.injEq] at hu
              subst hu
              exact nce (j := 0) (by simp) (by rfl)) (by simp [Value.oneCell']))
          have hvl : vs.length ≤ i := by have := HIC.out.len; omega
          have HBc := Lib.hid (show vs.length + 1 ≤ maxLen by unfold maxLen; omega)
          have HBd := Lib.hid (show (vs.length + 1) * 24 ≤ 140737488355328 by omega)
          clear HIC
          go_wp2_with (at_builtin; refine wpList_append_row _ rfl _ _ 22 22 rfl 26 j0 _ 1 24 Tryz.underlying22 hj0 hy0 hys hyb rfl O _ _ rfl HI8.out.out _ rfl 1 _ HS8.out HBc.out HBd.out ?_)
          intro O9 w9 hrow9 hgrow9 hob9
          have hsz : w.heap.size ≤ W2.heap.size := Nat.le_trans HBC.out.size HA8.out.size
          have HI9 := Lib.hid (HI8.out.push hsz hrow9 hgrow9 hob9)
          have HB9 := Lib.hid (below_row (HBC.out.trans (HA8.out.mono HBC.out.size)) (Nat.le_refl _) hgrow9 HI8.out.newO)
          clear hsz hrow9 hgrow9 hob9 HI8 HS8 HA8 hW2
          go_wp2_with fail
          go_roundw
          case rel => exact ⟨i + 1, O9, _, _, _, [], rfl, rfl, by go_num, hlt, HD2, by simp, by simp; omega, Lib.hid (fun _ => rfl), HI9, HB9⟩
          case measure => simp [intOf]; omega
    · obtain rfl : i = L.length := by omega
      have hq := HQE.out rfl
      subst hq
      have hD := HD.out
      rw [List.drop_length] at hD
      have hD2 : D = cutS most [] L := by rw [← hD]; simp [cutS]
      have hp := HI.out.pieces
      rw [hD2] at hp
      have HP := Lib.hid hp
      clear hD hD2 hp HD HI
      go_wp2_with fail
      go_ret
      first | exact ⟨O, vs, rfl, HP.out, HB.out⟩ | exact ⟨O, rfl, vs, HP.out, HB.out⟩ | exact ⟨O, rfl, ⟨vs, HP.out⟩, HB.out⟩
end Go.Proofs.YtcbailiniigcnaaGreat
