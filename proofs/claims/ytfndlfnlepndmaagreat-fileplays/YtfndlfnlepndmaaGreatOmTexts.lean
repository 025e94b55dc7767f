/- The statements' Book, lists of kind Texts: all are grown; one more list is kept. -/
import Derived.Test.YtfndlfnlepndmaaGreatOlTexts
namespace Go.Proofs.YtfndlfnlepndmaaGreat
open Go.RowKit

theorem rwTexts_marks (v : Value) (i n : Nat) : rwTexts (v, marksTexts i 0 n) = ⟨9, 1, v, n, cellsTexts (marksTexts i 0 n), none⟩ := by
  unfold rwTexts
  rw [marksTexts_length]
theorem formTexts {B : Nat} {w : World} {v : Value} {zs : List ByteArray} (h : (rwTexts (v, zs)).ok B w) (hn : zs.length ≠ 0) : ∃ g cap, v = .slice (some ⟨g, 0, none⟩) zs.length cap ∧ ∀ j u, (cellsTexts zs)[j]? = some u → w.cell? ((⟨g, 0, none⟩ : Addr).add j) = some u := by
  rcases h.slice with ⟨-, h0, -⟩ | ⟨g, cap, hv, hg, -⟩
  · exact absurd h0 hn
  · exact ⟨g, cap, hv, fun j u hj => by rw [addr_at, Nat.zero_add]; exact h.cell (own_of_vob hg) j u hj⟩
theorem growStepTexts {B : Nat} {w' : World} {R : List Rw} {i q j g cap : Nat} {l : Value} {o2 : List (Value × List ByteArray)} {old : List Rw} {q0 : Rw}
    (ho : Own B w' (⟨9, 1, .slice (some ⟨g, 0, none⟩) (q + j) cap, q + j, cellsTexts (marksTexts i 0 q) ++ cellsTexts (marksTexts i q j), none⟩ :: (old ++ (o2.map rwTexts ++ R))))
    (hold : (vob l = some g ∧ old = []) ∨ old = [⟨9, 1, l, q, cellsTexts (marksTexts i 0 q), none⟩]) (hcov : Cov (rwTexts (l, marksTexts i 0 q) :: o2.map rwTexts) q0) (hj : 0 < j := by first | decide | omega) :
    ∃ o3 : List (Value × List ByteArray), Own B w' (rwTexts (.slice (some ⟨g, 0, none⟩) (q + j) cap, marksTexts i 0 (q + j)) :: (o3.map rwTexts ++ R)) ∧ Cov (rwTexts (.slice (some ⟨g, 0, none⟩) (q + j) cap, marksTexts i 0 (q + j)) :: o3.map rwTexts) q0 := by
  have he : (⟨9, 1, .slice (some ⟨g, 0, none⟩) (q + j) cap, q + j, cellsTexts (marksTexts i 0 q) ++ cellsTexts (marksTexts i q j), none⟩ : Rw) = rwTexts (.slice (some ⟨g, 0, none⟩) (q + j) cap, marksTexts i 0 (q + j)) := by
    rw [rwTexts_marks, ← marksTexts_add, cellsTexts_append]
  rw [he] at ho
  have hpre : (rwTexts (l, marksTexts i 0 q)).xs <+: (rwTexts (Value.slice (some ⟨g, 0, none⟩) (q + j) cap, marksTexts i 0 (q + j))).xs := by
    show cellsTexts (marksTexts i 0 q) <+: cellsTexts (marksTexts i 0 (q + j))
    rw [← marksTexts_add, cellsTexts_append]
    exact List.prefix_append _ _
  rcases hold with ⟨h1, rfl⟩ | rfl
  · refine ⟨o2, by simpa using ho, ?_⟩
    have := hcov.grow (r' := rwTexts (Value.slice (some ⟨g, 0, none⟩) (q + j) cap, marksTexts i 0 (q + j))) (old := []) (.inl ⟨(ho.head.full rfl (by show (marksTexts i 0 (q + j)).length ≠ 0; rw [marksTexts_length]; omega)).trans h1.symm, hpre⟩)
    simpa using this
  · refine ⟨(l, marksTexts i 0 q) :: o2, ?_, ?_⟩
    · rw [List.map_cons, rwTexts_marks l]
      exact ho
    · rw [List.map_cons]
      have := hcov.grow (r' := rwTexts (Value.slice (some ⟨g, 0, none⟩) (q + j) cap, marksTexts i 0 (q + j))) (old := [rwTexts (l, marksTexts i 0 q)]) (.inr List.mem_cons_self)
      exact this
set_option maxHeartbeats 2000000 in
set_option maxRecDepth 100000 in
theorem growTexts_any (B b : Nat) (cs : List Value) (V : Value) (rows : List (Value × List ByteArray)) (rest : List Rw) (w : World) (hcs : cs[0]? = some V)
    (hown : Own B w (rows.map rwTexts ++ (bookR b cs :: outRTexts V (rows.map (·.1)) :: rest))) (hm : ∀ (i : Nat) (r : Value × List ByteArray), rows[i]? = some r → r.2 = marksTexts i 0 r.2.length) (hlen : rows.length ≤ 1000) (hn : ∀ r ∈ rows, r.2.length ≤ 100000) (hB : B ≤ w.heap.size) :
    Calls Tryz.prog 85 #[.pointer (some ⟨b, 0, none⟩)] w fun e w' => ∃ (Gv : Value) (gr ol : List (Value × List ByteArray)), e = .returned Gv ∧ Own B w' (gr.map rwTexts ++ (ol.map rwTexts ++ (outRTexts Gv (gr.map (·.1)) :: (bookR b cs :: outRTexts V (rows.map (·.1)) :: rest)))) ∧
      gr.length = rows.length ∧ (∀ (i : Nat) (r : Value × List ByteArray), gr[i]? = some r → r.2 = marksTexts i 0 r.2.length ∧ r.2.length ≤ 200000) ∧ (∀ r ∈ rows, Cov ((gr ++ ol).map rwTexts) (rwTexts r)) ∧ Below B w w' := by
  obtain ⟨i0, hi0, hz0, hz1, hz2⟩ := info_parts infoTexts
  obtain ⟨iL, hiL, hL0, hL1, hL2⟩ := info_parts infoLTexts
  have hvl : (rows.map (·.1)).length = rows.length := by simp
  have HCS := Lib.hid hcs
  have HN := Lib.hid hn
  have HM := Lib.hid hm
  obtain ⟨aV, capV, hV⟩ := slice_form (hown.1 (outRTexts V (rows.map (·.1))) (by simp))
  have hV2 : V = .slice aV rows.length capV := by rw [← hvl]; exact hV
  clear hV
  subst hV2
  obtain ⟨FX, hFX⟩ : ∃ FX, FX = (bookR b cs :: outRTexts (.slice aV rows.length capV) (rows.map (·.1)) :: rest) := ⟨_, rfl⟩
  rw [← hFX] at hown ⊢
  have hbm : bookR b cs ∈ FX := by rw [hFX]; simp
  have hom : outRTexts (.slice aV rows.length capV) (rows.map (·.1)) ∈ FX := by rw [hFX]; simp
  have hcb : ∀ (wr : World) L, Own B wr L → (∀ x ∈ FX, x ∈ L) → wr.cell? ⟨b, 0, none⟩ = some (.slice aV rows.length capV) := by
    intro wr L h hL
    exact (h.1 _ (hL _ hbm)).cell rfl 0 _ HCS.out
  have HCB := Lib.hid hcb
  clear hn hcs hcb hm hFX
  go_enter Tryz.func85, Tryz.ntmps85
  go_wp2
  go_loopw [3, 4] (fun vo vi wr => ∃ (i : Nat) (gr ol : List (Value × List ByteArray)), i ≤ rows.length ∧ vi = .int .i64 i ∧ gr.length = i ∧ Own B wr (gr.map rwTexts ++ (ol.map rwTexts ++ ((rows.drop i).map rwTexts ++ (outRTexts vo (gr.map (·.1)) :: FX)))) ∧
      (∀ (j : Nat) (r : Value × List ByteArray), gr[j]? = some r → r.2 = marksTexts j 0 r.2.length ∧ r.2.length ≤ 200000) ∧ (∀ r ∈ rows.take i, Cov ((gr ++ ol).map rwTexts) (rwTexts r)) ∧ Below B w wr) (fun _ vi _ => rows.length - (intOf vi).toNat)
  case atStart => exact ⟨0, [], [], Nat.zero_le _, rfl, rfl, by (have h := hown.toFrontNil 56 1; simpa [outRTexts] using h), by simp, by simp, Below.refl _ _⟩
  case round =>
    obtain ⟨i, gr, ol, hi, rfl, hgl, ho, hgm, hcov, hbel⟩ := hrel
    have hcb := HCB.out wr _ ho (by intro x hx; simp [hx])
    by_cases hlt : i < rows.length
    · have hsz : B ≤ wr.heap.size := Nat.le_trans hB hbel.size
      have hdr : rows.drop i = rows[i] :: rows.drop (i + 1) := by rw [List.getElem_cons_drop]
      rw [hdr] at ho
      have hnr := HN.out rows[i] (List.getElem_mem hlt)
      have hmr := HM.out i rows[i] (List.getElem?_eq_getElem hlt)
      have htk : rows.take (i + 1) = rows.take i ++ [rows[i]] := List.take_succ_eq_append_getElem hlt
      have hvi : (rows.map (·.1))[i]? = some rows[i].1 := by simp [hlt]
      generalize rows[i] = r at ho hnr hmr htk hvi
      obtain ⟨v, zs⟩ := r
      simp only at hnr hmr hvi
      obtain ⟨n, hzn⟩ : ∃ n, zs.length = n := ⟨_, rfl⟩
      rw [hzn] at hnr hmr
      subst hmr
      obtain ⟨R, hR⟩ : ∃ R, R = gr.map rwTexts ++ (ol.map rwTexts ++ ((rows.drop (i + 1)).map rwTexts ++ (outRTexts u3 (gr.map (·.1)) :: FX))) := ⟨_, rfl⟩
      have ho1 : Own B wr (rwTexts (v, marksTexts i 0 n) :: R) := by
        rw [hR]
        refine ho.perm ?_
        simp only [List.map_cons, List.cons_append]
        exact (List.Perm.append_left _ List.perm_middle).trans List.perm_middle
      clear ho hdr
      obtain ⟨G, rfl⟩ : ∃ g, aV = some ⟨g, 0, none⟩ := slice_some (ho1.1 (outRTexts (.slice aV rows.length capV) (rows.map (·.1))) (by rw [hR]; simp [hom])) rfl (by show (rows.map (·.1)).length ≠ 0; omega)
      have hmo := ho1.1 (outRTexts (.slice (some ⟨G, 0, none⟩) rows.length capV) (rows.map fun x => x.1)) (by rw [hR]; simp [hom])
      have hci : wr.cell? ⟨G, i, none⟩ = some v := hmo.cell rfl i _ hvi
      obtain ⟨av, capv, hv⟩ := slice_form ho1.head
      have hv2 : v = .slice av n capv := by rw [← hzn]; exact hv
      clear hv
      subst hv2
      have hk0 : (i : Int) < (rows.length : Int) := by omega
      have hcv0 := Cov.self ho1.head
      have HR := Lib.hid hR
      have HGL := Lib.hid hgl
      clear hR hvi hgl
      go_wp2
      go_loopw [5, 6] (fun vl vt wr => ∃ (t q : Nat) (al : Option Addr) (capl : Nat) (o2 : List (Value × List ByteArray)), t ≤ 12 ∧ vt = .int .i64 t ∧ vl = .slice al q capl ∧ Own B wr (rwTexts (.slice al q capl, marksTexts i 0 q) :: (o2.map rwTexts ++ R)) ∧
          Cov (rwTexts (.slice al q capl, marksTexts i 0 q) :: o2.map rwTexts) (rwTexts (.slice av n capv, marksTexts i 0 n)) ∧ Below B w wr ∧ Hid (q = n + t)) (fun _ vt _ => 12 - (intOf vt).toNat)
      case atStart => exact ⟨0, n, av, capv, [], by omega, rfl, rfl, ho1, hcv0, hbel, rfl⟩
      case round =>
        obtain ⟨t, q, al, capl, o2, ht, rfl, rfl, ho2, hcv, hbel2, HQ⟩ := hrel
        have hsz2 : B ≤ wr.heap.size := Nat.le_trans hB hbel2.size
        have hq1 : q ≤ 100012 := by have := HQ.out; omega
        have ho2m : Own B wr (⟨9, 1, .slice al q capl, q, cellsTexts (marksTexts i 0 q), none⟩ :: (o2.map rwTexts ++ R)) := by rw [← rwTexts_marks]; exact ho2
        by_cases htl : t < 12
        · have hmk := Lib.hid (fun w' : World => markTexts_any i q 1 w' (by omega) (by omega) (by omega))
          have hone := Lib.hid (cellsTexts_one (marksTexts i q 1))
          have hlen1 : Hid ((cellsTexts (marksTexts i q 1)).length = 1 * 1) := by show _ = _; rw [cellsTexts_ok, marksTexts_length]
          have HN1 := Lib.hid (marksTexts_length i q 1)
          clear ho2 hcb hci
          go_wp2_with (first | (go_at_call 145; refine (hmk.out _).mono ?_; rintro e w1 ⟨vm, rfl, hrow, hb1⟩; obtain ⟨gm, capm, hvm, hnw⟩ := formTexts hrow (by rw [HN1.out]; omega); rw [HN1.out] at hvm; subst hvm; have HNW := Lib.hid hnw; clear hnw hrow; have ho3 := ho2m.below hb1) | (at_builtin; refine wpList_append_rows _ rfl _ _ 56 rfl B 9 i0 _ 1 16 Tryz.underlying56 hi0 hz0 hz1 hz2 rfl (by decide) _ q _ _ rfl ho3 ⟨gm, 0, none⟩ 1 capm (cellsTexts (marksTexts i q 1)) rfl hlen1.out HNW.out hone.out (by omega) ?c3 ?c4 ?c5 ?_))
          case c3 => unfold maxLen; omega
          case c4 => omega
          case c5 => exact Nat.le_trans hsz2 hb1.size
          intro g cap w2 old ho4 hb2 hcap hold
          obtain ⟨o3, ho5, hcv5⟩ := growStepTexts ho4 hold hcv
          have hbel3 : Below B w w2 := (hbel2.trans (hb1.mono hsz2)).trans hb2
          clear ho4 hold ho3
          go_wp2
          go_roundw
          case rel => exact ⟨t + 1, q + 1, _, _, o3, by omega, by go_num, rfl, ho5, hcv5, hbel3, by show _ = _; have := HQ.out; omega⟩
          case measure => simp [intOf]; omega
        · have hmk := Lib.hid (fun w' : World => markTexts_any i q 60 w' (by omega) (by omega) (by omega))
          have hone := Lib.hid (cellsTexts_one (marksTexts i q 60))
          have hlen1 : Hid ((cellsTexts (marksTexts i q 60)).length = 60 * 1) := by show _ = _; rw [cellsTexts_ok, marksTexts_length]
          have HN1 := Lib.hid (marksTexts_length i q 60)
          clear ho2 hcb hci
          go_wp2_with (first | (go_at_call 145; refine (hmk.out _).mono ?_; rintro e w1 ⟨vm, rfl, hrow, hb1⟩; obtain ⟨gm, capm, hvm, hnw⟩ := formTexts hrow (by rw [HN1.out]; omega); rw [HN1.out] at hvm; subst hvm; have HNW := Lib.hid hnw; clear hnw hrow; have ho3 := ho2m.below hb1) | (at_builtin; refine wpList_append_rows _ rfl _ _ 56 rfl B 9 i0 _ 1 16 Tryz.underlying56 hi0 hz0 hz1 hz2 rfl (by decide) _ q _ _ rfl ho3 ⟨gm, 0, none⟩ 60 capm (cellsTexts (marksTexts i q 60)) rfl hlen1.out HNW.out hone.out (by omega) ?c3 ?c4 ?c5 ?_))
          case c3 => unfold maxLen; omega
          case c4 => omega
          case c5 => exact Nat.le_trans hsz2 hb1.size
          intro g cap w2 old ho4 hb2 hcap hold
          obtain ⟨o3, ho5, hcv5⟩ := growStepTexts ho4 hold hcv
          have hbel3 : Below B w w2 := (hbel2.trans (hb1.mono hsz2)).trans hb2
          clear ho4 hold ho3
          have ho6 : Own B w2 (⟨56, 1, u3, gr.length, gr.map fun x => x.1, none⟩ :: (rwTexts (Value.slice (some ⟨g, 0, none⟩) (q + 60) cap, marksTexts i 0 (q + 60)) :: (o3.map rwTexts ++ (gr.map rwTexts ++ (ol.map rwTexts ++ ((rows.drop (i + 1)).map rwTexts ++ FX)))))) := by
            have h := ho5
            rw [HR.out] at h
            refine h.perm ?_
            have hr : outRTexts u3 (gr.map fun x => x.1) = ⟨56, 1, u3, gr.length, gr.map fun x => x.1, none⟩ := by simp [outRTexts]
            rw [hr]
            have hp : (o3.map rwTexts ++ (gr.map rwTexts ++ (ol.map rwTexts ++ ((rows.drop (i + 1)).map rwTexts ++ ((⟨56, 1, u3, gr.length, gr.map fun x => x.1, none⟩ : Rw) :: FX))))).Perm ((⟨56, 1, u3, gr.length, gr.map fun x => x.1, none⟩ : Rw) :: (o3.map rwTexts ++ (gr.map rwTexts ++ (ol.map rwTexts ++ ((rows.drop (i + 1)).map rwTexts ++ FX))))) := by
              have h1 := (List.Perm.append_left (ol.map rwTexts) (List.perm_middle (a := (⟨56, 1, u3, gr.length, gr.map fun x => x.1, none⟩ : Rw)) (l₁ := (rows.drop (i + 1)).map rwTexts) (l₂ := FX))).trans List.perm_middle
              have h2 := (List.Perm.append_left (gr.map rwTexts) h1).trans List.perm_middle
              exact (List.Perm.append_left (o3.map rwTexts) h2).trans List.perm_middle
            exact (List.Perm.cons _ hp).trans (List.Perm.swap _ _ _)
          have hBw2 : B ≤ w2.heap.size := Nat.le_trans hB hbel3.size
          clear ho5
          go_wp2_with (at_builtin; refine wpList_append_rows _ rfl _ _ 30 rfl B 56 iL _ 1 24 Tryz.underlying30 hiL hL0 hL1 hL2 rfl (by decide) _ gr.length _ _ rfl (ho6.below ((Below.refl _ _).alloc (Nat.le_refl _) _)) ⟨w2.heap.size, 0, none⟩ 1 1 [Value.slice (some ⟨g, 0, none⟩) (q + 60) cap] rfl rfl ?d1 ?d2 (by omega) ?d3 ?d4 ?d5 ?_)
          case d1 =>
            intro j u hj
            match j, hj with
            | 0, hj => simp at hj; subst hj; simp [Addr.add]
          case d2 => intro u hu; simp at hu; subst hu; rfl
          case d3 => have := HGL.out; unfold maxLen; omega
          case d4 => have := HGL.out; omega
          case d5 => simp; omega
          intro g3 cap3 w3 old3 ho7 hb3 hcap3 hold3
          have hbel4 : Below B w w3 := (hbel3.alloc hBw2 _).trans hb3
          have ho8 : Own B w3 ((gr ++ [(Value.slice (some ⟨g, 0, none⟩) (q + 60) cap, marksTexts i 0 (q + 60))]).map rwTexts ++ ((o3 ++ ol).map rwTexts ++ ((rows.drop (i + 1)).map rwTexts ++ (outRTexts (.slice (some ⟨g3, 0, none⟩) (gr.length + 1) cap3) ((gr ++ [(Value.slice (some ⟨g, 0, none⟩) (q + 60) cap, marksTexts i 0 (q + 60))]).map fun x => x.1) :: FX)))) := by
            have hsub : Own B w3 ((⟨56, 1, .slice (some ⟨g3, 0, none⟩) (gr.length + 1) cap3, gr.length + 1, (gr.map fun x => x.1) ++ [Value.slice (some ⟨g, 0, none⟩) (q + 60) cap], none⟩ : Rw) :: (rwTexts (Value.slice (some ⟨g, 0, none⟩) (q + 60) cap, marksTexts i 0 (q + 60)) :: (o3.map rwTexts ++ (gr.map rwTexts ++ (ol.map rwTexts ++ ((rows.drop (i + 1)).map rwTexts ++ FX)))))) := by
              have h7 := ho7
              rw [← List.map_drop] at h7
              exact h7.sub (List.Sublist.cons_cons _ (List.sublist_append_right _ _))
            have hr : (⟨56, 1, .slice (some ⟨g3, 0, none⟩) (gr.length + 1) cap3, gr.length + 1, (gr.map fun x => x.1) ++ [Value.slice (some ⟨g, 0, none⟩) (q + 60) cap], none⟩ : Rw) = outRTexts (.slice (some ⟨g3, 0, none⟩) (gr.length + 1) cap3) ((gr ++ [(Value.slice (some ⟨g, 0, none⟩) (q + 60) cap, marksTexts i 0 (q + 60))]).map fun x => x.1) := by simp [outRTexts]
            rw [hr] at hsub
            generalize outRTexts (.slice (some ⟨g3, 0, none⟩) (gr.length + 1) cap3) ((gr ++ [(Value.slice (some ⟨g, 0, none⟩) (q + 60) cap, marksTexts i 0 (q + 60))]).map fun x => x.1) = O at hsub ⊢
            refine hsub.perm ?_
            simp only [List.map_append, List.map_cons, List.map_nil, List.append_assoc]
            generalize gr.map rwTexts = G1
            generalize o3.map rwTexts = O1
            generalize ol.map rwTexts = O2
            generalize (rows.drop (i + 1)).map rwTexts = D1
            generalize rwTexts (Value.slice (some ⟨g, 0, none⟩) (q + 60) cap, marksTexts i 0 (q + 60)) = r1
            exact perm_book O r1 O1 G1 O2 D1 FX
          have hgm2 : ∀ (j : Nat) (r : Value × List ByteArray), (gr ++ [(Value.slice (some ⟨g, 0, none⟩) (q + 60) cap, marksTexts i 0 (q + 60))])[j]? = some r → r.2 = marksTexts j 0 r.2.length ∧ r.2.length ≤ 200000 := by
            intro j r hr
            rcases Nat.lt_or_ge j gr.length with hj | hj
            · rw [List.getElem?_append_left hj] at hr
              exact hgm j r hr
            · rw [List.getElem?_append_right hj] at hr
              have hj2 : j - gr.length = 0 := by
                have := (List.getElem?_eq_some_iff.1 hr).1
                simpa using this
              rw [hj2] at hr
              simp at hr
              subst hr
              have hj3 : j = i := by have := HGL.out; omega
              subst hj3
              simp only [marksTexts_length, true_and]
              omega
          have hcov2 : ∀ r ∈ rows.take (i + 1), Cov (((gr ++ [(Value.slice (some ⟨g, 0, none⟩) (q + 60) cap, marksTexts i 0 (q + 60))]) ++ (o3 ++ ol)).map rwTexts) (rwTexts r) := by
            intro r hr
            rw [htk] at hr
            rcases List.mem_append.1 hr with hr | hr
            · exact (hcov r hr).mono (by intro x hx; simp only [List.map_append, List.mem_append] at hx ⊢; rcases hx with hx | hx <;> simp [hx])
            · simp at hr
              subst hr
              refine hcv5.mono ?_
              intro x hx
              rcases List.mem_cons.1 hx with rfl | hx
              · simp
              · simp only [List.map_append, List.mem_append]
                simp [hx]
          clear ho7 hold3 ho6
          go_wp2
          go_roundw
          case rel => exact ⟨i + 1, gr ++ [(Value.slice (some ⟨g, 0, none⟩) (q + 60) cap, marksTexts i 0 (q + 60))], o3 ++ ol, by omega, by go_num, by simp [HGL.out], HGL.out ▸ ho8, hgm2, hcov2, hbel4⟩
          case measure => simp [intOf]; omega
    · have hie : i = rows.length := by omega
      subst hie
      rw [List.drop_length] at ho
      rw [List.take_length] at hcov
      go_wp2
      go_ret
      exact ⟨_, gr, ol, rfl, by simpa using ho, hgl, hgm, hcov, hbel⟩
end Go.Proofs.YtfndlfnlepndmaaGreat
