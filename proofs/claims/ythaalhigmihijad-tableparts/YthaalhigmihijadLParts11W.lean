/- TableParts' walk, over what is asked of the program's table; alive is a premise. -/
import Derived.Test.YthaalhigmihijadLCheap11W
import Derived.Test.YthaalhigmihijadTE
namespace Go.Proofs.Ythaalhigmihijad
open Go.RowKit

/-- What TableParts goes on with. -/
structure Good11 (f m t : ByteArray) : Prop where
  f3 : f.size ≤ 300
  m3 : m.size ≤ 300
  t3 : t.size ≤ 300
  m0 : m.size ≠ 0
  t0 : t.size ≠ 0
  fm : lessB m f = false
  mt : lessB t m = false
theorem isEmpty_of {b : ByteArray} (h : b.size = 0) : b.toList.isEmpty = true := by
  rw [ByteArray.toList_eq]
  cases hd : b.data.toList with
  | nil => rfl
  | cons x l =>
    have := len_data' b
    rw [hd] at this
    simp at this
    omega
theorem isEmpty_no {b : ByteArray} (h : b.size ≠ 0) : b.toList.isEmpty = false := by
  rw [ByteArray.toList_eq]
  cases hd : b.data.toList with
  | nil => exact absurd (by rw [← len_data', hd]; rfl) h
  | cons => rfl
set_option maxHeartbeats 8000000 in
set_option maxRecDepth 100000 in
theorem tableParts_hard {Tbl : World → Nat → List Nat → List Ent → Nat → Prop} (T : TabC Tbl) {w : World} (CA : ∀ W : World, Calls Try.prog 5 #[] W fun e w' => e = .returned (.bool true) ∧ Below W.heap.size W w') (a : Option Addr) (len cap : Nat) (es : List Ent) (f : ByteArray) (hfm : f.size ≤ maxLen) (m : ByteArray) (hmm : m.size ≤ maxLen) (t : ByteArray) (htm : t.size ≤ maxLen) (seq : Nat) (hseq : seq < 18446744073709551616) (hI : IsEs w a len es) (hcap : len ≤ cap) :
    Calls Try.prog 3 #[.slice a len cap, .string f, .string m, .string t, .int .u64 (seq : Int)] w fun e w' => e = .returned (.bool true) ∧ Below w.heap.size w w' := by
  obtain ⟨hlm, hok, hE⟩ := hI
  have HCA := Lib.hid CA
  have HCS := Lib.hid (smallS_any a len cap es hE (by unfold maxLen at hlm; omega) hok)
  have hll : es.length = len := hE.1
  subst hll
  have HE := Lib.hid hE
  have HOK := Lib.hid hok
  have hf63 : f.size ≤ 9223372036854775807 := by unfold maxLen at hfm; omega
  have hm63 : m.size ≤ 9223372036854775807 := by unfold maxLen at hmm; omega
  have ht63 : t.size ≤ 9223372036854775807 := by unfold maxLen at htm; omega
  clear CA hlm hok hE hfm hmm htm
  go_enter Try.func3, Try.ntmps3
  go_upto_region 1 with fail
  go_cut [60] from 24 to 59 (fun v wx => ∃ V : Bool, v = .bool V ∧ (V = false → es.length ≤ 150 ∧ sizeEs es ≤ 20000 ∧ Good11 f m t) ∧ Below w.heap.size w wx)
  case first =>
    go_wp2_with fail
    go_at_call 4
    refine HCS.out.mono ?_
    rintro _ w1 ⟨sm, rfl, hsm, b1⟩
    cases sm with
    | false =>
      go_wp2_with fail
      go_meet
      exact ⟨true, rfl, (fun h => by cases h), b1⟩
    | true =>
      obtain ⟨k150, ksz⟩ := hsm rfl
      clear hsm
      by_cases h1 : f.size ≤ 300
      · have d1 : decide ((300 : Int) < (f.size : Int)) = false := by simp; omega
        by_cases h2 : m.size ≤ 300
        · have d2 : decide ((300 : Int) < (m.size : Int)) = false := by simp; omega
          by_cases h3 : t.size ≤ 300
          · have d3 : decide ((300 : Int) < (t.size : Int)) = false := by simp; omega
            by_cases h4 : m.size = 0
            · have d4 := isEmpty_of h4
              clear h4
              go_wp2_with fail
              go_meet
              exact ⟨true, rfl, (fun h => by cases h), b1⟩
            · have d4 := isEmpty_no h4
              by_cases h5 : t.size = 0
              · have d5 := isEmpty_of h5
                clear h5 h4
                go_wp2_with fail
                go_meet
                exact ⟨true, rfl, (fun h => by cases h), b1⟩
              · have d5 := isEmpty_no h5
                rcases less_threeT f m with ⟨e1, e2⟩ | ⟨e1, e2⟩ | ⟨e1, e2, e3⟩
                · rcases less_threeT m t with ⟨g1, g2⟩ | ⟨g1, g2⟩ | ⟨g1, g2, g3⟩
                  · have HGD := Lib.hid (show es.length ≤ 150 ∧ sizeEs es ≤ 20000 ∧ Good11 f m t from ⟨k150, ksz, h1, h2, h3, h4, h5, e2, g2⟩)
                    clear e2 g2 h4 h5
                    go_wp2_with fail
                    go_meet
                    exact ⟨false, rfl, fun _ => HGD.out, b1⟩
                  · have HGD := Lib.hid (show es.length ≤ 150 ∧ sizeEs es ≤ 20000 ∧ Good11 f m t from ⟨k150, ksz, h1, h2, h3, h4, h5, e2, g2⟩)
                    clear e2 g2 h4 h5
                    subst g1
                    go_wp2_with fail
                    go_meet
                    exact ⟨false, rfl, fun _ => HGD.out, b1⟩
                  · clear e2 g3 h4 h5
                    go_wp2_with fail
                    go_meet
                    exact ⟨true, rfl, (fun h => by cases h), b1⟩
                · subst e1
                  rcases less_threeT f t with ⟨g1, g2⟩ | ⟨g1, g2⟩ | ⟨g1, g2, g3⟩
                  · have HGD := Lib.hid (show es.length ≤ 150 ∧ sizeEs es ≤ 20000 ∧ Good11 f f t from ⟨k150, ksz, h1, h2, h3, h4, h5, e2, g2⟩)
                    clear e2 g2 h4 h5
                    go_wp2_with fail
                    go_meet
                    exact ⟨false, rfl, fun _ => HGD.out, b1⟩
                  · have HGD := Lib.hid (show es.length ≤ 150 ∧ sizeEs es ≤ 20000 ∧ Good11 f f t from ⟨k150, ksz, h1, h2, h3, h4, h5, e2, g2⟩)
                    clear e2 g2 h4 h5
                    subst g1
                    go_wp2_with fail
                    go_meet
                    exact ⟨false, rfl, fun _ => HGD.out, b1⟩
                  · clear e2 g3 h4 h5
                    go_wp2_with fail
                    go_meet
                    exact ⟨true, rfl, (fun h => by cases h), b1⟩
                · clear e3 h4 h5
                  go_wp2_with fail
                  go_meet
                  exact ⟨true, rfl, (fun h => by cases h), b1⟩
          · have d3 : decide ((300 : Int) < (t.size : Int)) = true := by simp; omega
            go_wp2_with fail
            go_meet
            exact ⟨true, rfl, (fun h => by cases h), b1⟩
        · have d2 : decide ((300 : Int) < (m.size : Int)) = true := by simp; omega
          go_wp2_with fail
          go_meet
          exact ⟨true, rfl, (fun h => by cases h), b1⟩
      · have d1 : decide ((300 : Int) < (f.size : Int)) = true := by simp; omega
        go_wp2_with fail
        go_meet
        exact ⟨true, rfl, (fun h => by cases h), b1⟩
  case rest =>
    obtain ⟨V, rfl, hV, b1⟩ := hcut
    have HB1 := Lib.hid b1
    cases V
    rotate_left
    focus
      go_wp2_with (go_at_call 5; (with_reducible refine (HCA.out _).mono ?_); rintro _ w2 ⟨rfl, b2⟩)
      go_ret
      exact ⟨rfl, HB1.out.trans (b2.mono HB1.out.size)⟩
    obtain ⟨h150, hsz, hg⟩ := hV rfl
    have HG := Lib.hid hg
    obtain ⟨hf3, hm3, ht3, hm0, ht0, -, -⟩ := hg
    have C2 := Lib.hid (T.put (w := wc) a es.length cap es ((HE.out.below HB1.out).mono HB1.out.size) h150 hcap HOK.out hsz)
    clear b1 HCS hV
    by_cases hor : es ≠ [] ∧ ordB es es.length = true
    · have hF : FineT es := ⟨hor.1, hor.2, h150, hsz, HOK.out⟩
      obtain ⟨Z, hZ, hZd⟩ := tabV_yes hF
      rw [hZ] at C2
      go_wp2_with fail
      go_at_call 6
      refine C2.out.mono ?_
      rintro _ w2 ⟨rfl, b2⟩
      have HB2 := Lib.hid (HB1.out.trans (b2.mono HB1.out.size))
      have C3 := Lib.hid (T.opens es Z w2 hF hZd)
      clear C2 b2 HB1 hZ
      go_wp2_with fail
      go_at_call 7
      refine C3.out.mono ?_
      rintro _ w3 ⟨p, F, rfl, hT, hFw, b3⟩
      have HB3 := Lib.hid (HB2.out.trans (b3.mono HB2.out.size))
      have HFW := Lib.hid (show ∀ k ∈ F, w.heap.size ≤ k from fun k hk => Nat.le_trans HB2.out.size (hFw k hk))
      have R1 := Lib.hid (T.range f m hT (by omega) (by omega) (by omega))
      clear C3 b3 hFw hT HB2
      go_wp2_with fail
      go_at_call 8
      refine R1.out.mono ?_
      rintro _ w4 ⟨va, F4, n4, rfl, na, hT4, -, hm4, tu4, hF4⟩
      have hn4 : n4 ≤ 20 := by
        have h1 := mostT_le es f m (numT es)
        have h2 : numT es ≤ 19 := by unfold numT; omega
        omega
      clear hm4
      have HB4 := Lib.hid (show Below w.heap.size w w4 from HB3.out.trans (tu4.below HB3.out.size HFW.out))
      have HF4 := Lib.hid (show ∀ k ∈ F4, w.heap.size ≤ k from fun k hk => (hF4 k hk).elim (HFW.out k) (fun h => Nat.le_trans HB3.out.size h))
      have HNA := Lib.hid na
      have R2 := Lib.hid (T.range m t hT4 (by omega) (by omega) (by omega))
      have hs34 := tu4.size
      clear R1 na hT4 tu4 hF4
      go_wp2_with fail
      go_at_call 8
      refine R2.out.mono ?_
      rintro _ w5 ⟨vb, F5, n5, rfl, nb, hT5, -, hm5, tu5, hF5⟩
      have hn5 : n5 ≤ 40 := by
        have h1 := mostT_le es m t (numT es)
        have h2 : numT es ≤ 19 := by unfold numT; omega
        omega
      clear hm5
      have HB5 := Lib.hid (show Below w.heap.size w w5 from HB4.out.trans (tu5.below HB4.out.size HF4.out))
      have HF5 := Lib.hid (show ∀ k ∈ F5, w.heap.size ≤ k from fun k hk => (hF5 k hk).elim (HF4.out k) (fun h => Nat.le_trans HB4.out.size h))
      have HRA5 := Lib.hid (row_turn HNA.out.row tu5 (fun k hk => (HNA.out.new k hk).2))
      have HNA5 := Lib.hid (show ∀ k, ob va = some k → w.heap.size ≤ k ∧ k < w4.heap.size ∧ k ∉ F5 from fun k hk => ⟨Nat.le_trans HB3.out.size (HNA.out.new k hk).1, HNA.out.row.lt k hk, fun h => (hF5 k h).elim (HNA.out.new k hk).2 (fun h2 => by have := HNA.out.row.lt k hk; omega)⟩)
      have HNB := Lib.hid nb
      have R3 := Lib.hid (T.range f t hT5 (by omega) (by omega) (by omega))
      have hs45 := tu5.size
      clear R2 nb hT5 tu5 hF5 HNA
      go_wp2_with fail
      go_at_call 8
      refine R3.out.mono ?_
      rintro _ w6 ⟨vc, F6, n6, rfl, nc, hT6, -, hm6, tu6, hF6⟩
      have hn6 : n6 ≤ 60 := by
        have h1 := mostT_le es f t (numT es)
        have h2 : numT es ≤ 19 := by unfold numT; omega
        omega
      clear hm6
      have HB6 := Lib.hid (show Below w.heap.size w w6 from HB5.out.trans (tu6.below HB5.out.size HF5.out))
      have HF6 := Lib.hid (show ∀ k ∈ F6, w.heap.size ≤ k from fun k hk => (hF6 k hk).elim (HF5.out k) (fun h => Nat.le_trans HB5.out.size h))
      have HRA6 := Lib.hid (row_turn HRA5.out tu6 (fun k hk => (HNA5.out k hk).2.2))
      have HRB6 := Lib.hid (row_turn HNB.out.row tu6 (fun k hk => (HNB.out.new k hk).2))
      have hs56 := tu6.size
      have HNA6 := Lib.hid (show ∀ k, ob va = some k → w.heap.size ≤ k ∧ k < w4.heap.size ∧ k ∉ F6 from fun k hk => ⟨(HNA5.out k hk).1, (HNA5.out k hk).2.1, fun h => (hF6 k h).elim (HNA5.out k hk).2.2 (fun h2 => by have := (HNA5.out k hk).2.1; omega)⟩)
      have HNB6 := Lib.hid (show ∀ k, ob vb = some k → w4.heap.size ≤ k ∧ k < w5.heap.size ∧ k ∉ F6 from fun k hk => ⟨(HNB.out.new k hk).1, HNB.out.row.lt k hk, fun h => (hF6 k h).elim (HNB.out.new k hk).2 (fun h2 => by have := HNB.out.row.lt k hk; omega)⟩)
      have HNC6 := Lib.hid (show ∀ k, ob vc = some k → w5.heap.size ≤ k ∧ k ∉ F6 from nc.new)
      have HRC6 := Lib.hid nc.row
      have R4 := Lib.hid (T.get f seq hT6 (by omega) (by omega) hseq)
      clear R3 nc hT6 tu6 hF6 HNA5 HNB HRA5
      obtain ⟨x, tt, hx, -⟩ := foundV_form (findT es f seq)
      have HX := Lib.hid hx
      rw [hx] at R4
      go_wp2_with fail
      go_at_call 9
      refine R4.out.mono ?_
      rintro _ w7 ⟨F7, n7, rfl, hT7, -, -, -, tu7, hF7⟩
      have HB7 := Lib.hid (show Below w.heap.size w w7 from HB6.out.trans (tu7.below HB6.out.size HF6.out))
      have HRA7 := Lib.hid (row_turn HRA6.out tu7 (fun k hk => (HNA6.out k hk).2.2))
      have HRB7 := Lib.hid (row_turn HRB6.out tu7 (fun k hk => (HNB6.out k hk).2.2))
      have HRC7 := Lib.hid (row_turn HRC6.out tu7 (fun k hk => (HNC6.out k hk).2))
      clear R4 hT7 tu7 hF7 HRA6 HRB6 HRC6 hx
      go_upto_region 13 with fail
      obtain ⟨W8, hW8⟩ : ∃ W8, w7.alloc (.cells #[.string x.k, .int .u64 x.s, .int .i64 x.n, .string x.v] 35) = W8 := ⟨_, rfl⟩
      have hb8 : Below w7.heap.size w7 W8 := by rw [← hW8]; exact (Below.refl _ _).alloc (Nat.le_refl _) _
      have hbx : Boxe w7.heap.size x.k x.s x.n x.v W8 := by rw [← hW8]; exact new_block _ _ rfl
      rw [hW8]
      have HB8 := Lib.hid (HB7.out.trans (hb8.mono HB7.out.size))
      have rA := row_below HRA7.out hb8
      have rB := row_below HRB7.out hb8
      have rC := row_below HRC7.out hb8
      have hXA : ∀ k, ob va = some k → k ≠ w7.heap.size := fun k hk e => by have := HRA7.out.lt k hk; omega
      have hCA : ∀ k, ob va = some k → ob vc ≠ some k := fun k hk e => by have h1 := (HNA6.out k hk).2.1; have h2 := (HNC6.out k e).1; omega
      have hla := rangeE_le f m es
      have hlb := rangeE_le m t es
      obtain ⟨i0, hi0, hz0, hzs, hzb⟩ := info_parts infoE5
      obtain ⟨v', w9, hr, hrow9, hgrow9, -⟩ := run_append_row (P := Try.prog) W8 22 22 22 35 i0 _ 4 48 Try.underlying22 hi0 hz0 hzs hzb rfl va _ _ rA vb _ _ (row_srcE rB) (by unfold maxLen; omega) (by omega)
      have HB9 := Lib.hid (show Below w.heap.size w w9 from below_row HB8.out (Nat.le_refl _) hgrow9 (fun k hk => (HNA6.out k hk).1))
      have rC9 : Row w9 35 4 vc (rangeE f t es).length (cellsE (rangeE f t es)) := rC.kept fun k hk => hgrow9.block k (rC.lt k hk) (fun e => hCA k e.symm hk)
      have hbx9 : Boxe w7.heap.size x.k x.s x.n x.v w9 := (hgrow9.block _ hbx.lt (fun e => hXA _ e.symm rfl)).trans hbx
      rw [← List.length_append, ← cellsE_append, range_two hF.ord HG.out.fm HG.out.mt hm0 ht0] at hrow9
      obtain ⟨a9, c9, rfl, hE9⟩ := row_ents hrow9
      obtain ⟨ac, cc, rfl, hEc⟩ := row_ents rC9
      obtain ⟨aa, ca, rfl, -, -⟩ := rA.le
      obtain ⟨ab, cb, rfl, -, -⟩ := rB.le
      have hlc := rangeE_le f t es
      have HR := Lib.hid hr
      have CE := Lib.hid (sameE_any a9 ac c9 cc (rangeE f t es) w9 hE9 hEc (fun y hy => (HOK.out y (List.mem_filter.1 hy).1).2.1) (by omega))
      have HBX := Lib.hid hbx9
      clear hr
      generalize (rangeE f t es).length = lc at *
      generalize (rangeE f m es).length = la at *
      generalize (rangeE m t es).length = lb at *
      generalize w7.heap.size = X at HBX ⊢
      clear hW8 hb8 hbx rA rB rC hXA hCA hrow9 hgrow9 rC9 hbx9 hE9 hEc HRA7 HRB7 HRC7 HB7 HB8 HNA6 HNB6 HNC6
      go_cut [131] from 110 to 130 (fun v wx => v = .bool false ∧ Below w9.heap.size w9 wx)
      case first =>
        go_wp2_with (first | (go_at_call 10; (with_reducible refine CE.out.mono ?_); rintro _ wA ⟨rfl, nA, rfl⟩) | (at_builtin; refine wpList_append_on _ (by rfl) _ _ 22 22 rfl _ _ rfl rfl HR.out ?_) | fail)
        go_meet
        exact ⟨rfl, belowN (Below.refl _ _) nA⟩
      case rest =>
        obtain ⟨rfl, bc⟩ := hcut
        have HBC := Lib.hid bc
        have HBXC := Lib.hid (HBX.out.below bc)
        have HBW := Lib.hid (HB9.out.trans (bc.mono HB9.out.size))
        clear bc CE HR HBX HBC
        go_wp2_with fail
        go_loopw [24] (fun kv wr => ∃ k : Nat, kv = .int .i64 (k : Int) ∧ k ≤ es.length ∧ Hid (∀ i, i < k → ¬ ((entAt es i).k = f ∧ (entAt es i).s ≤ (seq : Int))) ∧ Below wc.heap.size wc wr) (fun kv _ => es.length - (intOf kv).toNat)
        case atStart => exact ⟨0, rfl, Nat.zero_le _, Lib.hid (fun i hi => absurd hi (Nat.not_lt_zero _)), Below.refl _ _⟩
        case round =>
          obtain ⟨k, rfl, hkl, HNO, hbl⟩ := hrel
          have HBL := Lib.hid (HBW.out.trans (hbl.mono HBW.out.size))
          have HBR := Lib.hid hbl
          by_cases hlt : k < es.length
          · obtain ⟨b, off, rfl, hc⟩ : ∃ b off, a = some ⟨b, off, none⟩ ∧ ∀ j u, (entAt es k).cells[j]? = some u → wr.cell? ⟨b, off + k * 4 + j, none⟩ = some u := by
              rcases (HE.out.below HBL.out).2 with h0 | ⟨b, off, e, h1, h2⟩
              · omega
              · refine ⟨b, off, e, ?_⟩
                rw [entAt_get hlt]
                exact h2 k hlt
            have hltI : (k : Int) < (es.length : Int) := by omega
            have hFA := fun h => findT_at (seq := seq) hlt HNO.out h
            obtain ⟨y, hy⟩ : ∃ y, entAt es k = y := ⟨_, rfl⟩
            rw [hy] at hc hFA
            have HYO := Lib.hid (show 0 ≤ y.s by rw [← hy, entAt_get hlt]; exact (HOK.out _ (List.getElem_mem _)).2.1)
            have HY := Lib.hid hy
            have q0 : wr.cell? ⟨b, off + k * 4, none⟩ = some (.string y.k) := hc 0 _ rfl
            have q1 : wr.cell? ⟨b, off + k * 4 + 1, none⟩ = some (.int .u64 y.s) := hc 1 _ rfl
            have q2 : wr.cell? ⟨b, off + k * 4 + 2, none⟩ = some (.int .i64 y.n) := hc 2 _ rfl
            have q3 : wr.cell? ⟨b, off + k * 4 + 3, none⟩ = some (.string y.v) := hc 3 _ rfl
            clear hc hy hbl
            by_cases hm : y.k = f ∧ y.s ≤ (seq : Int)
            · obtain ⟨hm1, hm2⟩ := hm
              have hfx := HX.out
              rw [hFA ⟨hm1, hm2⟩] at hfx
              obtain ⟨rfl, rfl⟩ : y = x ∧ true = tt := by
                obtain ⟨yk, ys, yn, yv⟩ := y
                obtain ⟨xk, xs, xn, xv⟩ := x
                unfold foundV ev at hfx
                simp only [Value.tuple.injEq, Array.mk.injEq, List.cons.injEq, Value.agg.injEq, Value.string.injEq, Value.int.injEq, Value.bool.injEq, true_and, and_true] at hfx
                obtain ⟨⟨h1, h2, h3, h4⟩, h5⟩ := hfx
                exact ⟨by rw [h1, h2, h3, h4], h5⟩
              have k1 : (y.k.toList == f.toList) = true := by rw [hm1]; simp
              have k2 : decide (y.s ≤ (seq : Int)) = true := decide_eq_true hm2
              have bX := HBXC.out.below HBR.out
              have p0 := bX.c0
              have p1 := bX.c1
              have p2 := bX.c2
              have p3 := bX.c3
              clear hFA hfx hm1 hm2 bX
              go_upto_region 19 with fail
              have p0d : wr.drew.cell? ⟨X, 0, none⟩ = some (.string y.k) := p0
              have p1d : wr.drew.cell? ⟨X, 1, none⟩ = some (.int .u64 y.s) := p1
              have p2d : wr.drew.cell? ⟨X, 2, none⟩ = some (.int .i64 y.n) := p2
              have p3d : wr.drew.cell? ⟨X, 3, none⟩ = some (.string y.v) := p3
              have q0d : wr.drew.cell? ⟨b, off + k * 4, none⟩ = some (.string y.k) := q0
              have q1d : wr.drew.cell? ⟨b, off + k * 4 + 1, none⟩ = some (.int .u64 y.s) := q1
              have q2d : wr.drew.cell? ⟨b, off + k * 4 + 2, none⟩ = some (.int .i64 y.n) := q2
              have q3d : wr.drew.cell? ⟨b, off + k * 4 + 3, none⟩ = some (.string y.v) := q3
              go_region_held3 (fun w' => w'.cell? ⟨X, 0, none⟩ = some (.string y.k) ∧ w'.cell? ⟨X, 1, none⟩ = some (.int .u64 y.s) ∧ w'.cell? ⟨X, 2, none⟩ = some (.int .i64 y.n) ∧ w'.cell? ⟨X, 3, none⟩ = some (.string y.v) ∧ w'.cell? ⟨b, off + k * 4, none⟩ = some (.string y.k) ∧ w'.cell? ⟨b, off + k * 4 + 1, none⟩ = some (.int .u64 y.s) ∧ w'.cell? ⟨b, off + k * 4 + 2, none⟩ = some (.int .i64 y.n) ∧ w'.cell? ⟨b, off + k * 4 + 3, none⟩ = some (.string y.v))
                (first | assumption | with_reducible exact ⟨p0, p1, p2, p3, q0, q1, q2, q3⟩ | with_reducible exact ⟨kkB bA p0d, kkB bA p1d, kkB bA p2d, kkB bA p3d, kkB bA q0d, kkB bA q1d, kkB bA q2d, kkB bA q3d⟩ | go_keep)
                (first | (go_at_call 5; (with_reducible refine (HCA.out _).mono ?_); rintro _ wA ⟨rfl, bA⟩) | fail)
              all_goals go_wp2
              all_goals go_ret
              all_goals exact ⟨rfl, HBL.out.drew.trans (bA.mono HBL.out.size)⟩
            · have HNN := Lib.hid (show ∀ i, i < k + 1 → ¬ ((entAt es i).k = f ∧ (entAt es i).s ≤ (seq : Int)) from fun i hi => by
                by_cases e : i = k
                · rw [e, HY.out]; exact hm
                · exact HNO.out i (by omega))
              cases k1 : (y.k.toList == f.toList) with
              | false =>
                clear hFA hm
                go_wp2
                go_roundw
                case rel => exact ⟨k + 1, by go_num, by omega, HNN, HBR.out⟩
                case measure => simp [intOf]; omega
              | true =>
                have hk : y.k = f := toList_injT (by simpa using k1)
                have k2 : decide (y.s ≤ (seq : Int)) = false := decide_eq_false (fun h => hm ⟨hk, h⟩)
                clear hFA hm hk
                go_wp2
                go_roundw
                case rel => exact ⟨k + 1, by go_num, by omega, HNN, HBR.out⟩
                case measure => simp [intOf]; omega
          · obtain rfl : k = es.length := by omega
            have hfx := HX.out
            rw [findT_no HNO.out] at hfx
            obtain rfl : false = tt := by
              obtain ⟨xk, xs, xn, xv⟩ := x
              unfold foundV ev at hfx
              simp only [Value.tuple.injEq, Array.mk.injEq, List.cons.injEq, Value.bool.injEq, and_true] at hfx
              exact hfx.2
            clear hfx hbl
            go_wp2_with (go_at_call 5; (with_reducible refine (HCA.out _).mono ?_); rintro _ wA ⟨rfl, bA⟩)
            go_ret
            exact ⟨rfl, HBL.out.trans (bA.mono HBL.out.size)⟩
    · rw [tabV_no hor] at C2
      go_wp2_with (first | (go_at_call 6; refine C2.out.mono ?_; rintro _ w2 ⟨rfl, b2⟩) | (go_at_call 5; refine (HCA.out _).mono ?_; rintro _ w3 ⟨rfl, b3⟩) | fail)
      go_ret
      exact ⟨rfl, (HB1.out.trans (b2.mono HB1.out.size)).trans (b3.mono (Nat.le_trans HB1.out.size b2.size))⟩
end Go.Proofs.Ythaalhigmihijad
