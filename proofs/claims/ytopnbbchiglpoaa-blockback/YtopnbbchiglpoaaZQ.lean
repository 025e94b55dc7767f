/- The program: block.read. -/
import Derived.Test.YtopnbbchiglpoaaZO
namespace Go.Proofs.Ytopnbbchiglpoaa
open Go.RowKit

/-- What read answers of bytes of which these are the versions' bytes. -/
def ReadP (body : List UInt8) (w : World) (x : Ending) (w' : World) : Prop :=
  (∃ es v, x = .returned (.tuple #[v, .bool true]) ∧ Row w' 34 4 v es.length (cellsE es) ∧ (es = [] → v = .slice none 0 0) ∧ (∀ k, ob v = some k → w.heap.size ≤ k) ∧ GoP body [] es ∧ Below w.heap.size w w') ∨
  (x = .returned (.tuple #[.slice none 0 0, .bool false]) ∧ (∀ L, ¬ LaidP L body) ∧ Below w.heap.size w w')
set_option maxHeartbeats 1000000 in
theorem read_short (s : ByteArray) (w : World) (hs : s.size < 4) : Calls Try.prog 18 #[.string s] w fun x w' => x = .returned (.tuple #[.slice none 0 0, .bool false]) ∧ Below w.heap.size w w' := by
  have CU := Lib.hid (fun W => unfix_arg s ((s.size : Int) - 4) 4 W (by omega))
  go_enter Try.func18, Try.ntmps18
  go_wp2_with (go_at_call 34; (with_reducible refine (CU.out _).mono ?_); rintro _ w2 ⟨rfl, rfl⟩)
  go_ret2
  exact ⟨rfl, Below.refl _ _⟩
set_option maxHeartbeats 1000000 in
theorem read_cnt (s : ByteArray) (w : World) (hs : 4 ≤ s.size) (hsm : s.size ≤ 1000000) (n : Nat) (hn : beVal (piece s (s.size - 4) 4) = n) (hgt : (s.size - 4) / 4 < n) : Calls Try.prog 18 #[.string s] w fun x w' => x = .returned (.tuple #[.slice none 0 0, .bool false]) ∧ Below w.heap.size w w' := by
  have CU := Lib.hid (fun W => unfix_ok s (s.size - 4) 4 W (by omega) (by omega) (by omega) (by omega))
  rw [hn, show ((s.size - 4 : Nat) : Int) = (s.size : Int) - 4 by omega, show ((4 : Nat) : Int) = 4 from rfl] at CU
  have hgI : ((s.size : Int) - 4) / 4 < (n : Int) := by omega
  have hwI : IntKind.u64.wrap (((s.size : Int) - 4) / 4) = ((s.size : Int) - 4) / 4 := by rw [IntKind.wrap_u64]; omega
  go_enter Try.func18, Try.ntmps18
  go_wp2_with (go_at_call 34; (with_reducible refine (CU.out _).mono ?_); rintro _ w2 ⟨rfl, rfl⟩)
  go_ret2
  exact ⟨rfl, Below.refl _ _⟩
set_option maxHeartbeats 8000000 in
set_option maxRecDepth 100000 in
theorem read_loop (s : ByteArray) (w : World) (hs : 4 ≤ s.size) (hsm : s.size ≤ 100000) (n : Nat) (hn : beVal (piece s (s.size - 4) 4) = n) (hgt : n ≤ (s.size - 4) / 4) (B : ByteArray) (hB : s.extract 0 (s.size - 4 - 4 * n) = B) :
    Calls Try.prog 18 #[.string s] w (ReadP B.data.toList w) := by
  have CU := Lib.hid (fun W => unfix_ok s (s.size - 4) 4 W (by omega) (by omega) (by omega) (by omega))
  rw [hn, show ((s.size - 4 : Nat) : Int) = (s.size : Int) - 4 by omega, show ((4 : Nat) : Int) = 4 from rfl] at CU
  have hgI : ¬ ((s.size : Int) - 4) / 4 < (n : Int) := by omega
  have hwI : IntKind.u64.wrap (((s.size : Int) - 4) / 4) = ((s.size : Int) - 4) / 4 := by rw [IntKind.wrap_u64]; omega
  have hnI : (n : Int) * 4 ≤ (s.size : Int) - 4 := by omega
  have hwn : IntKind.i64.wrap (n : Int) = (n : Int) := by rw [IntKind.wrap_i64]; omega
  have hBs : B.size ≤ 100000 := by rw [← hB, ByteArray.size_extract]; omega
  have htn : ((s.size : Int) - 4 - (n : Int) * 4).toNat = s.size - 4 - 4 * n := by omega
  have CN := Lib.hid (fun W => newReader_any B W)
  obtain ⟨i0, hi0, hz0, hzs, hzb⟩ := info_parts infoE5
  clear hn
  go_enter Try.func18, Try.ntmps18
  go_wp2_with (first | (go_at_call 34; (with_reducible refine (CU.out _).mono ?_); rintro _ w2 ⟨rfl, rfl⟩) | (go_at_call 35; (with_reducible refine (CN.out _).mono ?_); rintro _ W1 ⟨rfl, hr1, hb1, -⟩) | fail)
  obtain ⟨rb, hrb⟩ : ∃ rb, w.heap.size = rb := ⟨_, rfl⟩
  have hrw : w.heap.size ≤ rb := Nat.le_of_eq hrb
  rw [hrb] at hr1
  have HW1 := Lib.hid hb1
  have HR1 := Lib.hid (show Rdr W1 rb B.data.toList 0 from ⟨B, hr1, fun _ => rfl, by omega⟩)
  rw [hrb]
  clear hr1 hb1 CU CN
  go_loopw [8] (fun lv wr => ∃ (es : List Ent) (V : Value) (l : List UInt8), V = lv ∧ Rdr wr rb l 0 ∧ Row wr 34 4 V es.length (cellsE es) ∧ (es = [] → V = .slice none 0 0) ∧ (∀ k, ob V = some k → w.heap.size ≤ k ∧ k ≠ rb) ∧ Hid (GoP B.data.toList l es) ∧ Below w.heap.size w wr) (fun _ wr => rdM wr rb)
  case atStart => exact ⟨[], _, _, rfl, HR1.out, row_nil _ _ _, fun _ => rfl, fun k hk => by simp [ob] at hk, Lib.hid (GoP.start _), HW1.out⟩
  case round =>
    clear HW1 HR1
    obtain ⟨es, V, l, rfl, hrd, hrow, hv0, hob, HGO, hbl⟩ := hrel
    have HRD := Lib.hid hrd
    have HRW := Lib.hid hrow
    have HV0 := Lib.hid hv0
    have HOB := Lib.hid hob
    have HBL := Lib.hid hbl
    have CL := Lib.hid (pr_left hrd)
    obtain ⟨av, cv, rfl, -, -⟩ := hrow.le
    clear hrow hv0 hob hbl hrd
    by_cases hne : l = []
    · subst hne
      rw [show (([] : List UInt8).length : Int) = 0 from rfl] at CL
      go_wp2_with (go_at_call 36; (with_reducible refine CL.out.mono ?_); rintro _ w3 ⟨rfl, rfl⟩)
      go_ret2
      exact .inl ⟨es, _, rfl, HRW.out, HV0.out, fun k hk => (HOB.out k hk).1, HGO.out, HBL.out⟩
    · have hpos : 0 < l.length := List.length_pos_iff.2 hne
      have hposI : (0 : Int) < (l.length : Int) := by omega
      have hcnt := HGO.out.cnt
      rw [len_data'] at hcnt
      have hel : es.length ≤ 20000 := by omega
      have CR := Lib.hid (fun W => isRestart_any es.length W (by omega))
      go_upto_if 43 with (first | (go_at_call 36; (with_reducible refine CL.out.mono ?_); rintro _ w3 ⟨rfl, rfl⟩) | (go_at_call 28; (with_reducible refine (CR.out _).mono ?_); rintro _ w4 ⟨rfl, rfl⟩) | fail)
      go_cut [9] from 42 to 50 (fun v9 wx => ∃ A : ByteArray, v9 = .string A ∧ Hid (A.data.toList = aheadP es) ∧ wr = wx)
      case first =>
        by_cases h4 : es.length % 4 = 0
        · rw [decide_eq_true h4]
          have HA : Hid ((⟨#[]⟩ : ByteArray).data.toList = aheadP es) := by
            show _ = _
            unfold aheadP
            rw [if_pos h4]
          clear h4
          go_wp2
          go_meet
          exact ⟨_, rfl, HA, rfl⟩
        · obtain ⟨a1, c1, hv1, hE⟩ := row_ents HRW.out
          cases hv1
          obtain ⟨m, hm⟩ : ∃ m, es.length = m + 1 := ⟨es.length - 1, by omega⟩
          obtain ⟨b, off, rfl, hce⟩ : ∃ b off, av = some ⟨b, off, none⟩ ∧ ∀ j u, (entAt es m).cells[j]? = some u → wr.cell? ⟨b, off + m * 4 + j, none⟩ = some u := by
            rcases hE.2 with h0 | ⟨b, off, e, h1, h2⟩
            · omega
            · refine ⟨b, off, e, ?_⟩
              rw [entAt_get (show m < es.length by omega)]
              exact h2 m (by omega)
          have HA : Hid ((entAt es m).k.data.toList = aheadP es) := by
            show _ = _
            unfold aheadP
            rw [if_neg h4, show es.length - 1 = m by omega]
          generalize entAt es m = y at *
          have p0 : wr.cell? ⟨b, off + m * 4, none⟩ = some (.string y.k) := hce 0 _ rfl
          have hmI : (es.length : Int) - 1 = (m : Int) := by omega
          have hmL : (m : Int) < (es.length : Int) := by omega
          have hwm : IntKind.i64.wrap (m : Int) = (m : Int) := by rw [IntKind.wrap_i64]; omega
          rw [decide_eq_false h4]
          clear h4 hce hE hm
          go_wp2
          go_meet
          exact ⟨_, rfl, HA, rfl⟩
      case rest =>
        obtain ⟨A, rfl, HA, rfl⟩ := hcut
        have hAs : A.size ≤ 300 := by rw [← len_data', HA.out]; exact HGO.out.ahead
        have CN := Lib.hid (next_any A hAs HRD.out)
        rw [HA.out] at CN
        have hany := stP_any (aheadP es) l HGO.out.ahead
        obtain ⟨S, hS⟩ : ∃ S, stP (aheadP es) l = S := ⟨_, rfl⟩
        rw [hS] at CN hany
        have HNO := Lib.hid (show (S.2.2 ≠ 0 ∨ folB es S.1 = false) → ∀ L, ¬ LaidP L B.data.toList from fun h => HGO.out.no hne (by rw [hS]; exact h))
        have HYES := Lib.hid (show S.2.2 = 0 → folB es S.1 = true → GoP B.data.toList S.2.1 (es ++ [S.1]) from fun h1 h2 => by
          have := HGO.out.step hne (by rw [hS]; exact h1) (by rw [hS]; exact h2)
          rw [hS] at this
          exact this)
        obtain ⟨⟨K, SQ, NN, U⟩, l', e'⟩ := S
        simp only at CN HNO HYES hany
        have HME := Lib.hid (show e' = 0 → l'.length < l.length from fun h => by have := hany.2.2 h; omega)
        have HOX := Lib.hid hany.1
        unfold ev at CN
        clear hS hany CL CR
        go_upto_region 12 with (go_at_call 37; (with_reducible refine CN.out.mono ?_); rintro _ w5 ⟨rfl, r5, g5⟩)
        obtain ⟨W6, hW6⟩ : ∃ W6, w5.alloc (.cells #[.string K, .int .u64 SQ, .int .i64 NN, .string U] 34) = W6 := ⟨_, rfl⟩
        have hb56 : Below w5.heap.size w5 W6 := by rw [← hW6]; exact (Below.refl _ _).alloc (Nat.le_refl _) _
        have hbx : Boxe w5.heap.size K SQ NN U W6 := by rw [← hW6]; exact new_block _ _ rfl
        have r6 : Rdr W6 rb l' e' := r5.below hb56 r5.lt
        have g6 : wr.grownBy W6 (some rb) := grownBy_trans g5 (grownBy_of_below hb56 _)
        have HRW6 := Lib.hid (show Row W6 34 4 (.slice av es.length cv) es.length (cellsE es) from HRW.out.kept (fun k hk => g6.block k (HRW.out.lt k hk) (by simp; exact (HOB.out k hk).2)))
        have HBL6 := Lib.hid (show Below w.heap.size w W6 from below_row HBL.out (Nat.le_refl _) g6 (fun k hk => by cases hk; exact hrw))
        have hwX : wr.heap.size ≤ w5.heap.size := g5.size
        rw [hW6]
        generalize w5.heap.size = X at hbx hwX ⊢
        have CE := Lib.hid (pr_err r6)
        have HR6 := Lib.hid r6
        have HBX := Lib.hid hbx
        clear hW6 hb56 r5 g5 CN r6 g6 hbx
        by_cases he : e' = 0
        · subst he
          obtain ⟨a1, c1, hv1, hE⟩ := row_ents HRW6.out
          cases hv1
          have CF := Lib.hid (follows_any (w := W6) W6.heap.size (Nat.le_refl _) av es.length cv es hE (by omega) HGO.out.ok ⟨K, SQ, NN, U⟩ HOX.out)
          unfold ev at CF
          simp only at CF
          have c0 : W6.cell? ⟨X, 0, none⟩ = some (.string K) := HBX.out.c0
          have c1 : W6.cell? ⟨X, 1, none⟩ = some (.int .u64 SQ) := HBX.out.c1
          have c2 : W6.cell? ⟨X, 2, none⟩ = some (.int .i64 NN) := HBX.out.c2
          have c3 : W6.cell? ⟨X, 3, none⟩ = some (.string U) := HBX.out.c3
          obtain ⟨F, hF⟩ : ∃ F, folB es ⟨K, SQ, NN, U⟩ = F := ⟨_, rfl⟩
          rw [hF] at CF HNO HYES
          clear hE hF
          cases F with
          | false =>
            go_wp2_with (first | (go_at_call 38; (with_reducible refine CE.out.mono ?_); rintro _ w7 ⟨rfl, rfl⟩) | (go_at_call 14; (with_reducible refine CF.out.mono ?_); rintro _ w8 ⟨rfl, b8⟩) | fail)
            go_ret2
            exact .inr ⟨rfl, HNO.out (.inr (by first | rfl | trivial)), HBL6.out.trans (b8.mono HBL6.out.size)⟩
          | true =>
            have HM := Lib.hid (show es.length + 1 ≤ maxLen by unfold maxLen; omega)
            have HN := Lib.hid (show (es.length + 1) * 48 ≤ 140737488355328 by omega)
            have HRWB := Lib.hid (show ∀ w8, Below W6.heap.size W6 w8 → Row (w8.alloc (.cells #[.string K, .int .u64 SQ, .int .i64 NN, .string U] 34)) 34 4 (.slice av es.length cv) es.length (cellsE es) from fun w8 h => row_below (row_below HRW6.out h) ((Below.refl _ _).alloc (Nat.le_refl _) _))
            have HSRC := Lib.hid (fun w8 => src_new ⟨K, SQ, NN, U⟩ w8)
            go_wp2_with (first | (go_at_call 38; (with_reducible refine CE.out.mono ?_); rintro _ w7 ⟨rfl, rfl⟩) | (go_at_call 14; (with_reducible refine CF.out.mono ?_); rintro _ w8 ⟨rfl, b8⟩; have d0 := kkB b8 c0; have d1 := kkB b8 c1; have d2 := kkB b8 c2; have d3 := kkB b8 c3) | (at_builtin; refine wpList_append_row _ rfl _ _ 22 22 rfl 34 i0 _ 4 48 Try.underlying22 hi0 hz0 hzs hzb rfl (.slice av es.length cv) _ _ rfl (HRWB.out _ b8) _ rfl 1 _ (HSRC.out _) HM.out HN.out ?_; intro v' wz hrowz hgrowz hobz) | fail)
            have hb9 : Below W6.heap.size W6 (w8.alloc (.cells #[.string K, .int .u64 SQ, .int .i64 NN, .string U] 34)) := b8.alloc b8.size _
            have hb9s := hb9.size
            have HRZ := Lib.hid (show Rdr wz rb l' 0 from (HR6.out.kept (hb9.block rb HR6.out.lt)).kept (hgrowz.block rb (Nat.lt_of_lt_of_le HR6.out.lt hb9.size) (fun e => (HOB.out rb e.symm).2 rfl)))
            have HGZ := Lib.hid (show Below w.heap.size w wz from below_row (HBL6.out.trans (hb9.mono HBL6.out.size)) (Nat.le_refl _) hgrowz (fun k hk => (HOB.out k hk).1))
            have HOZ := Lib.hid (show ∀ k, ob v' = some k → w.heap.size ≤ k ∧ k ≠ rb from fun k hk => by
              rcases hobz with e | ⟨e, -⟩
              · exact HOB.out k (by rw [← e]; exact hk)
              · rw [e] at hk
                cases hk
                have h2 := HR6.out.lt
                have h4 := HBL6.out.size
                constructor <;> omega)
            have HWZ := Lib.hid (show Row wz 34 4 v' (es ++ [(⟨K, SQ, NN, U⟩ : Ent)]).length (cellsE (es ++ [(⟨K, SQ, NN, U⟩ : Ent)])) by
              rw [List.length_append, cellsE_append, show cellsE [(⟨K, SQ, NN, U⟩ : Ent)] = Ent.cells ⟨K, SQ, NN, U⟩ by simp [cellsE]]
              exact hrowz)
            have HGOZ := Lib.hid (HYES.out (by first | rfl | trivial) (by first | rfl | trivial))
            clear hrowz hgrowz hobz hb9 hb9s b8 c0 c1 c2 c3 d0 d1 d2 d3
            go_roundw
            all_goals first
              | (rw [HRZ.out.m, HRD.out.m, if_pos rfl, if_pos rfl]
                 have := HME.out (by first | rfl | trivial)
                 omega)
              | exact ⟨es ++ [⟨K, SQ, NN, U⟩], v', l', rfl, HRZ.out, HWZ.out, fun h => absurd h (by simp), HOZ.out, HGOZ, HGZ.out⟩
        · have hd : (e' != 0) = true := by simpa using he
          go_wp2_with (go_at_call 38; (with_reducible refine CE.out.mono ?_); rintro _ w7 ⟨rfl, rfl⟩)
          go_ret2
          exact .inr ⟨rfl, HNO.out (.inl he), HBL6.out⟩
end Go.Proofs.Ytopnbbchiglpoaa
