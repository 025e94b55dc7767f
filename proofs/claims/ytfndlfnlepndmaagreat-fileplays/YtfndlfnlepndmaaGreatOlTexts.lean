/- The statements' Book, lists of kind Texts: are they marked; all are marked. -/
import Derived.Test.YtfndlfnlepndmaaGreatOkTexts
import Derived.Test.YtfndlfnlepndmaaGreatO3
namespace Go.Proofs.YtfndlfnlepndmaaGreat
open Go.RowKit

set_option maxHeartbeats 2000000 in
set_option maxRecDepth 100000 in
theorem markedTexts_any (V : Value) (vs : List Value) (zss : List (List ByteArray)) (w : World) (hRV : Rd w V vs.length vs) (h0 : RdsTexts w vs zss) (hm : ∀ (i : Nat) (zs : List ByteArray), zss[i]? = some zs → zs = marksTexts i 0 zs.length) (hlen : zss.length ≤ 1000) :
    Calls Tryz.prog 99 #[V] w fun e w' => e = .returned (.bool true) ∧ Below w.heap.size w w' := by
  have hvl := h0.1
  obtain ⟨a, cap, rfl, r0⟩ := hRV
  rw [hvl] at r0 ⊢
  have H0 := Lib.hid h0
  have HM := Lib.hid hm
  clear h0 hm
  go_enter Tryz.func99, Tryz.ntmps99
  go_wp2
  go_loopw [3] (fun i wr => ∃ k : Nat, k ≤ zss.length ∧ i = .int .i64 k ∧ Below w.heap.size w wr) (fun i _ => zss.length - (intOf i).toNat)
  case atStart => exact ⟨0, Nat.zero_le _, rfl, Below.refl _ _⟩
  case round =>
    obtain ⟨k, hk, rfl, hbel⟩ := hrel
    by_cases hlt : k < zss.length
    · rcases r0 with r0 | ⟨g, off, rfl, hg, hc⟩
      · omega
      · have hvk : vs[k]? = some (vs[k]'(by omega)) := List.getElem?_eq_getElem _
        have hzk : zss[k]? = some zss[k] := List.getElem?_eq_getElem _
        have hx0 := (hbel.cell (p := ⟨g, off + k, none⟩) hg).trans (hc k _ hvk)
        obtain ⟨hr0, hlz⟩ := H0.out.2 k _ _ hvk hzk
        have hme := Lib.hid (HM.out k _ hzk)
        generalize vs[k]'(by omega) = v at hx0 hr0
        generalize zss[k] = zs at hr0 hlz hme
        obtain ⟨a1, cap1, rfl, -⟩ := id hr0
        have hrd := Lib.hid (hr0.below (hbel.mono (Nat.le_refl _)))
        have hmk := Lib.hid (fun w' : World => markTexts_any k 0 zs.length w' (by omega) (by omega) (by omega))
        have hgl : g < wr.heap.size := Nat.lt_of_lt_of_le hg hbel.size
        have hk0 : (k : Int) < (zss.length : Int) := by omega
        have hk1 : (0 : Int) ≤ (k : Int) := by omega
        clear hc hvk hzk hr0
        go_wp2
        go_region_held3 (fun w' => w'.cell? ⟨g, off + k, none⟩ = some (.slice a1 zs.length cap1)) (go_keep) (first | (go_at_call 145; refine (hmk.out _).mono ?_; rintro e w1 ⟨vm, rfl, hrow, hb1⟩; have hx1 := (hb1.cell (p := ⟨g, off + k, none⟩) hgl).trans hx0; have hrm : Rd w1 vm zs.length (cellsTexts zs) := by (have h := hrow.rd; change Rd w1 vm (marksTexts k 0 zs.length).length (cellsTexts (marksTexts k 0 zs.length)) at h; rw [← hme.out] at h; exact h)) | (go_at_call 55; refine (sameTexts_rd _ _ zs _ ((hrd.out.below (drew_below' _ 1)).below hb1) hrm (by omega)).mono ?_; rintro e w2 ⟨rfl, n2, rfl⟩))
        go_wp2
        go_roundw
        case rel => exact ⟨k + 1, by omega, by go_num, (hbel.drew.trans (hb1.mono hbel.size)).trans ((drew_below' _ _).mono (Nat.le_trans hbel.size hb1.size))⟩
        case measure => simp [intOf]; omega
    · go_wp2
      go_ret
      exact ⟨rfl, hbel⟩

def markAllTexts (rows : List (Value × List ByteArray)) : List (Value × List ByteArray) := rows.mapIdx fun i r => (r.1, marksTexts i 0 r.2.length)
theorem markAllTexts_length (rows : List (Value × List ByteArray)) : (markAllTexts rows).length = rows.length := by simp [markAllTexts]
theorem markAllTexts_get (rows : List (Value × List ByteArray)) (i : Nat) (h : i < rows.length) : (markAllTexts rows)[i]'(by rw [markAllTexts_length]; exact h) = (rows[i].1, marksTexts i 0 rows[i].2.length) := by simp [markAllTexts]
theorem markAllTexts_take (rows : List (Value × List ByteArray)) (i : Nat) (h : i < rows.length) : (markAllTexts rows).take (i + 1) = (markAllTexts rows).take i ++ [(rows[i].1, marksTexts i 0 rows[i].2.length)] := by
  rw [List.take_succ_eq_append_getElem (by rw [markAllTexts_length]; exact h), markAllTexts_get rows i h]

set_option maxHeartbeats 2000000 in
set_option maxRecDepth 100000 in
theorem putTexts_any (B b : Nat) (cs : List Value) (V : Value) (rows : List (Value × List ByteArray)) (rest : List Rw) (w : World) (hcs : cs[0]? = some V)
    (hown : Own B w (rows.map rwTexts ++ (bookR b cs :: outRTexts V (rows.map (·.1)) :: rest))) (hlen : rows.length ≤ 1000) (hn : ∀ r ∈ rows, r.2.length ≤ 200000) (hB : B ≤ w.heap.size) :
    Calls Tryz.prog 73 #[.pointer (some ⟨b, 0, none⟩)] w fun e w' => e = .returned (.tuple #[]) ∧ Own B w' ((markAllTexts rows).map rwTexts ++ (bookR b cs :: outRTexts V (rows.map (·.1)) :: rest)) ∧ Below B w w' := by
  have hvl : (rows.map (·.1)).length = rows.length := by simp
  have HCS := Lib.hid hcs
  have HN := Lib.hid hn
  have hVs : ∃ a cap, V = .slice a rows.length cap := by
    have h := hown.1 (outRTexts V (rows.map (·.1))) (by simp)
    rcases h.slice with ⟨hv, hn0, -⟩ | ⟨g, cap, hv, -⟩
    · have hn1 : (rows.map (·.1)).length = 0 := hn0
      rw [hvl] at hn1
      exact ⟨_, 0, by rw [hn1]; exact hv⟩
    · have hv2 : V = .slice (some ⟨g, 0, none⟩) (rows.map (·.1)).length cap := hv
      rw [hvl] at hv2
      exact ⟨_, cap, hv2⟩
  obtain ⟨aV, capV, rfl⟩ := hVs
  have hcb : ∀ wr : World, ∀ L, Own B wr (L ++ (bookR b cs :: outRTexts (.slice aV rows.length capV) (rows.map (·.1)) :: rest)) → wr.cell? ⟨b, 0, none⟩ = some (.slice aV rows.length capV) := by
    intro wr L h
    have h1 := h.1 (bookR b cs) (by simp)
    exact h1.cell rfl 0 _ HCS.out
  have HCB := Lib.hid hcb
  clear hn hcs hcb
  go_enter Tryz.func73, Tryz.ntmps73
  go_wp2
  go_loopw [2] (fun vi wr => ∃ i : Nat, i ≤ rows.length ∧ vi = .int .i64 i ∧ Own B wr (((markAllTexts rows).take i ++ rows.drop i).map rwTexts ++ (bookR b cs :: outRTexts (.slice aV rows.length capV) (rows.map (·.1)) :: rest)) ∧ Below B w wr) (fun vi _ => rows.length - (intOf vi).toNat)
  case atStart => exact ⟨0, Nat.zero_le _, rfl, by simpa using hown, Below.refl _ _⟩
  case round =>
    obtain ⟨i, hi, rfl, ho, hbel⟩ := hrel
    have hcb := HCB.out wr _ ho
    by_cases hlt : i < rows.length
    · have hsz : B ≤ wr.heap.size := Nat.le_trans hB hbel.size
      have hdr : rows.drop i = rows[i] :: rows.drop (i + 1) := by rw [List.getElem_cons_drop]
      rw [hdr] at ho
      have hnr := HN.out rows[i] (List.getElem_mem hlt)
      have htk := Lib.hid (markAllTexts_take rows i hlt)
      have hvi : (rows.map (·.1))[i]? = some rows[i].1 := by simp [hlt]
      generalize rows[i] = r at ho hnr htk hvi
      obtain ⟨v, zs⟩ := r
      simp only at hnr htk hvi
      have ho1 : Own B wr (rwTexts (v, zs) :: (((markAllTexts rows).take i).map rwTexts ++ ((rows.drop (i + 1)).map rwTexts ++ (bookR b cs :: outRTexts (.slice aV rows.length capV) (rows.map (·.1)) :: rest)))) := by
        rw [List.map_append, List.map_cons, List.append_assoc] at ho
        exact ho.toFront
      clear ho hdr
      obtain ⟨R, hR⟩ : ∃ R, R = ((markAllTexts rows).take i).map rwTexts ++ ((rows.drop (i + 1)).map rwTexts ++ (bookR b cs :: outRTexts (.slice aV rows.length capV) (rows.map (·.1)) :: rest)) := ⟨_, rfl⟩
      rw [← hR] at ho1
      have hbm : bookR b cs ∈ R := by rw [hR]; simp
      have hom : outRTexts (.slice aV rows.length capV) (rows.map (·.1)) ∈ R := by rw [hR]; simp
      obtain ⟨G, rfl⟩ : ∃ G, aV = some ⟨G, 0, none⟩ := by
        rcases (ho1.1 _ (List.mem_cons_of_mem _ hom)).slice with ⟨-, h0, -⟩ | ⟨g, cap, hv, -⟩
        · have h1 : (rows.map (·.1)).length = 0 := h0
          omega
        · have hv2 : Value.slice aV rows.length capV = .slice (some ⟨g, 0, none⟩) _ cap := hv
          simp only [Value.slice.injEq] at hv2
          exact ⟨g, hv2.1⟩
      have hco : ∀ (w2 : World) L, Own B w2 (L ++ R) → w2.cell? ⟨b, 0, none⟩ = some (.slice (some ⟨G, 0, none⟩) rows.length capV) ∧ w2.cell? ⟨G, i, none⟩ = some v := by
        intro w2 L h
        refine ⟨(h.1 _ (List.mem_append_right _ hbm)).cell rfl 0 _ HCS.out, ?_⟩
        exact (h.1 _ (List.mem_append_right _ hom)).cell rfl i _ hvi
      have HCO := Lib.hid hco
      have hci := (hco wr [rwTexts (v, zs)] ho1).2
      clear hco
      obtain ⟨av, capv, hvv⟩ : ∃ a cap, v = .slice a zs.length cap := by
        rcases ho1.head.slice with ⟨hv, hn0, -⟩ | ⟨g, cap, hv, -⟩
        · have hn1 : zs.length = 0 := hn0
          exact ⟨_, 0, by rw [hn1]; exact hv⟩
        · exact ⟨_, cap, hv⟩
      subst hvv
      have hmk := Lib.hid (fun w' : World => markTexts_any i 0 zs.length w' (by omega) (by omega) hnr)
      have hk0 : (i : Int) < (rows.length : Int) := by omega
      go_wp2_with (go_at_call 145; refine (hmk.out _).mono ?_; rintro e w1 ⟨vm, rfl, hrow, hb1⟩)
      have ho2 : Own B w1 ([rwTexts (.slice av zs.length capv, zs), rwTexts (vm, marksTexts i 0 zs.length)] ++ R) := (ho1.new hb1 hrow hsz).perm (List.Perm.swap _ _ _)
      have hbel1 : Below B w w1 := hbel.trans (hb1.mono hsz)
      obtain ⟨am, capm, hvm⟩ : ∃ a cap, vm = .slice a zs.length cap := by
        rcases hrow.slice with ⟨hv, hn0, -⟩ | ⟨g, cap, hv, -⟩
        · have hn1 : (marksTexts i 0 zs.length).length = 0 := hn0
          rw [marksTexts_length] at hn1
          exact ⟨_, 0, by rw [hn1]; exact hv⟩
        · have hv2 : vm = .slice (some ⟨g, 0, none⟩) (marksTexts i 0 zs.length).length cap := hv
          rw [marksTexts_length] at hv2
          exact ⟨_, cap, hv2⟩
      subst hvm
      clear hrow ho1 hb1
      go_wp2
      go_loopw [4] (fun vk wq => ∃ k : Nat, k ≤ zs.length ∧ vk = .int .i64 k ∧ Own B wq ([rwTexts (.slice av zs.length capv, (marksTexts i 0 zs.length).take k ++ zs.drop k), rwTexts (.slice am zs.length capm, marksTexts i 0 zs.length)] ++ R) ∧ Below B w wq) (fun vk _ => zs.length - (intOf vk).toNat)
      case atStart => exact ⟨0, Nat.zero_le _, rfl, by simpa using ho2, hbel1⟩
      case round =>
        obtain ⟨q, hq, rfl, ho3, hbel3⟩ := hrel
        by_cases hql : q < zs.length
        · have hml := marksTexts_length i 0 zs.length
          have hxl := mix_length (marksTexts i 0 zs.length) zs q (by omega) hml
          obtain ⟨g, rfl⟩ : ∃ g, av = some ⟨g, 0, none⟩ := by
            rcases ho3.head.slice with ⟨-, hn0, -⟩ | ⟨g, cap, hv, -⟩
            · have h1 : ((marksTexts i 0 zs.length).take q ++ zs.drop q).length = 0 := hn0
              omega
            · have hv2 : Value.slice av zs.length capv = .slice (some ⟨g, 0, none⟩) _ cap := hv
              simp only [Value.slice.injEq] at hv2
              exact ⟨g, hv2.1⟩
          obtain ⟨gm, rfl⟩ : ∃ g, am = some ⟨g, 0, none⟩ := by
            rcases ho3.tail.head.slice with ⟨-, hn0, -⟩ | ⟨g, cap, hv, -⟩
            · have h1 : (marksTexts i 0 zs.length).length = 0 := hn0
              omega
            · have hv2 : Value.slice am zs.length capm = .slice (some ⟨g, 0, none⟩) _ cap := hv
              simp only [Value.slice.injEq] at hv2
              exact ⟨g, hv2.1⟩
          have hc1 := HCO.out wr _ ho3
          obtain ⟨mq, hmq⟩ : ∃ z, z = (marksTexts i 0 zs.length)[q]'(by omega) := ⟨_, rfl⟩
          obtain ⟨oq, hcg⟩ : ∃ z, wr.cell? ⟨g, q, none⟩ = some (.string z) := ⟨_, ho3.head.cell rfl q _ (cellsTexts_get _ q (by rw [hxl]; exact hql))⟩
          have hfz : wr.frozen? ⟨g, q, none⟩ = false := ho3.head.frozen rfl q rfl (by show ((marksTexts i 0 zs.length).take q ++ zs.drop q).length ≠ 0; omega)
          have hcm : wr.cell? ⟨gm, q, none⟩ = some (.string mq) := by rw [hmq]; exact ho3.tail.head.cell rfl q _ (cellsTexts_get _ q (by rw [hml]; exact hql))
          have hne1 : g ≠ b := ho3.ne (List.mem_cons_of_mem _ hbm) rfl rfl (by show ((marksTexts i 0 zs.length).take q ++ zs.drop q).length ≠ 0; omega) (by show (1 : Nat) ≠ 0; decide)
          have hne2 : g ≠ G := ho3.ne (List.mem_cons_of_mem _ hom) rfl rfl (by show ((marksTexts i 0 zs.length).take q ++ zs.drop q).length ≠ 0; omega) (by show (rows.map (·.1)).length ≠ 0; omega)
          have hne3 : g ≠ gm := ho3.ne List.mem_cons_self rfl rfl (by show ((marksTexts i 0 zs.length).take q ++ zs.drop q).length ≠ 0; omega) (by show (marksTexts i 0 zs.length).length ≠ 0; rw [marksTexts_length]; omega)
          have hst : Own B (wr.setCell ⟨g, q, none⟩ (.string mq)) ([rwTexts (.slice (some ⟨g, 0, none⟩) zs.length capv, (marksTexts i 0 zs.length).take (q + 1) ++ zs.drop (q + 1)), rwTexts (.slice (some ⟨gm, 0, none⟩) zs.length capm, marksTexts i 0 zs.length)] ++ R) := by
            have ho4 : Own B wr (⟨9, 1, .slice (some ⟨g, 0, none⟩) zs.length capv, zs.length, cellsTexts ((marksTexts i 0 zs.length).take q ++ zs.drop q), none⟩ :: (rwTexts (.slice (some ⟨gm, 0, none⟩) zs.length capm, marksTexts i 0 zs.length) :: R)) := by
              have h := ho3
              simp only [rwTexts, hxl] at h
              exact h
            have h := ho4.store q (.string mq)
            rw [cellsTexts_set, hmq, mix_set _ _ q hql hml] at h
            have hx2 := mix_length (marksTexts i 0 zs.length) zs (q + 1) (by omega) hml
            simp only [rwTexts, hx2]
            rw [hmq]
            exact h
          have HST := Lib.hid hst
          have hBg : B ≤ g := (ho3.head.lt g (ho3.head.full rfl (by show ((marksTexts i 0 zs.length).take q ++ zs.drop q).length ≠ 0; omega))).1
          have hbs : Below B w (wr.setCell ⟨g, q, none⟩ (.string mq)) := hbel3.setCell (p := ⟨g, q, none⟩) hBg _
          obtain ⟨hc1a, hc1b⟩ := hc1
          have hql0 : (q : Int) < (zs.length : Int) := by omega
          have hql1 : (0 : Int) ≤ (q : Int) := by omega
          have hi1 : (0 : Int) ≤ (i : Int) := by omega
          clear hst ho3 hmq hbel1 ho2
          clear hml hxl
          go_wp2
          go_region_held3 (fun w' => w'.cell? ⟨b, 0, none⟩ = some (.slice (some ⟨G, 0, none⟩) rows.length capV) ∧ w'.cell? ⟨G, i, none⟩ = some (.slice (some ⟨g, 0, none⟩) zs.length capv) ∧ w'.cell? ⟨gm, q, none⟩ = some (.string mq)) (first | go_keep | (refine ⟨?_, ?_, ?_⟩ <;> (rw [World.cell?_setCell_other _ _ _ _ (by simp; omega)]; assumption))) (fail)
          go_wp2
          go_roundw
          case rel => exact ⟨q + 1, by omega, by go_num, own_drew HST.out, drew_set hbs⟩
          case measure => simp [intOf]; omega
        · have hqe : q = zs.length := by omega
          subst hqe
          have ho4 : Own B wr (((markAllTexts rows).take (i + 1) ++ rows.drop (i + 1)).map rwTexts ++ (bookR b cs :: outRTexts (.slice (some ⟨G, 0, none⟩) rows.length capV) (rows.map (·.1)) :: rest)) := by
            have h : Own B wr (rwTexts (.slice av zs.length capv, (marksTexts i 0 zs.length).take zs.length ++ zs.drop zs.length) :: R) := ho3.sub (List.Sublist.cons_cons _ (List.sublist_cons_self _ _))
            rw [List.take_of_length_le (by rw [marksTexts_length]; omega), List.drop_length, List.append_nil, hR] at h
            have h2 := h.fromFront
            rw [htk.out, List.map_append, List.map_append, List.map_cons, List.map_nil, List.append_assoc, List.append_assoc]
            exact h2
          clear ho3 ho2
          go_wp2
          go_roundw
          case rel => exact ⟨i + 1, by omega, by go_num, ho4, hbel3⟩
          case measure => simp [intOf]; omega
    · have hie : i = rows.length := by omega
      subst hie
      rw [List.drop_length, List.append_nil, ← markAllTexts_length rows, List.take_length] at ho
      rw [markAllTexts_length] at ho
      go_wp2
      go_end0
      exact ⟨rfl, ho, hbel⟩
end Go.Proofs.YtfndlfnlepndmaaGreat
