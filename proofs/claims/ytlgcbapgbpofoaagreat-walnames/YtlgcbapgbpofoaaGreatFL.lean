/- Crash. -/
import Derived.Test.YtlgcbapgbpofoaaGreatFK
namespace Go.Proofs.YtlgcbapgbpofoaaGreat
open Go.RowKit

theorem redo_ids {Q : Nat → Prop} : ∀ (l : List Chg) (d : Dir), (∀ p ∈ d, Q p.2) → (∀ c ∈ l, ∀ i, c.made = some i → Q i) → ∀ p ∈ redo d l, Q p.2
  | [], _, hd, _ => hd
  | c :: l, d, hd, hc => redo_ids l (c.run d) (Chg.run_mem (Q := fun p => Q p.2) hd (fun a _ ha => by
      unfold Chg.file at ha
      split at ha
      · exact hc c (by simp) a ha
      · exact hd (c.src, a) (mem_of_dget ha))) (fun c' hc' => hc c' (List.mem_cons_of_mem _ hc'))
theorem redo_nms : ∀ (l : List Chg) (d : Dir), (∀ p ∈ d, isNm p.1 = true) → (∀ c ∈ l, c.dst = [] ∨ isNm c.dst = true) → ∀ p ∈ redo d l, isNm p.1 = true
  | [], _, hd, _ => hd
  | c :: l, d, hd, hc => redo_nms l (c.run d) (Chg.run_mem (Q := fun p => isNm p.1 = true) hd (fun a hne _ => by
      rcases hc c (by simp) with h' | h'
      · exact absurd h' hne
      · exact h')) (fun c' hc' => hc c' (List.mem_cons_of_mem _ hc'))
theorem dget_of_mem : ∀ {d : Dir}, d.Pairwise (fun p q => p.1 ≠ q.1) → ∀ {n : Nm} {a : Nat}, (n, a) ∈ d → dget d n = some a
  | [], _, _, _, h => by cases h
  | p :: d, hp, n, a, h => by
    have h2 := List.pairwise_cons.1 hp
    by_cases he : p.1 = n
    · have : p = (n, a) := by
        rcases List.mem_cons.1 h with h' | h'
        · exact h'.symm
        · exact absurd he (h2.1 _ h')
      subst this
      simp [dget]
    · have h' : (n, a) ∈ d := by
        rcases List.mem_cons.1 h with h' | h'
        · exact absurd (by rw [← h']) he
        · exact h'
      have ih := dget_of_mem h2.2 h'
      unfold dget at ih ⊢
      rw [List.find?_cons_of_neg (by simpa using he)]
      exact ih
def Rep.nowAt (r : Rep) (b : Nat) : Rep := { r with mn := b }
theorem foot_nowAt (r : Rep) (b k : Nat) : k ∈ (r.nowAt b).foot ↔ k = r.p ∨ k = b ∨ k = r.ml ∨ ob r.pv = some k ∨ k ∈ r.fs.flatMap fFoot := by
  simp [Rep.foot, Rep.rest, Rep.nowAt]
theorem nodup_nowAt {r : Rep} (h : r.foot.Nodup) {b : Nat} (hb : b ∉ r.foot) : (r.nowAt b).foot.Nodup := by
  have h' : (r.p :: r.ml :: r.rest).Nodup := by
    refine List.Nodup.sublist ?_ h
    simp only [Rep.foot]
    simp
  have hn : b ∉ r.p :: r.ml :: r.rest := by
    intro hm
    refine hb ?_
    simp only [Rep.foot, List.mem_cons] at hm ⊢
    rcases hm with hm | hm | hm
    · exact .inl hm
    · exact .inr (.inr (.inl hm))
    · exact .inr (.inr (.inr hm))
  have : (r.nowAt b).foot.Perm (b :: r.p :: r.ml :: r.rest) := by
    simp only [Rep.foot, Rep.nowAt]
    exact List.Perm.swap _ _ _
  exact this.nodup_iff.2 (List.nodup_cons.2 ⟨hn, h'⟩)
/-- The directory is another one. -/
theorem Sys.nowAt {w w' : World} {r : Rep} {s : St} {d : Dir} {b : Nat} (h : Sys w r s) (hb : w.heap.size ≤ b) (hc : w'.heap[r.p]? = some (.cells (sysCells (r.nowAt b) s) 167)) (hd : DirAt w' b (mapD r.at d))
    (hk : ∀ k ∈ r.foot, k ≠ r.p → w'.heap[k]? = w.heap[k]?) (h1 : ∀ p ∈ d, p.2 < s.files.length) (h2 : ∀ p ∈ d, isNm p.1 = true) : Sys w' (r.nowAt b) { s with now := d } := by
  have A := apart_of h.apart
  have hk' : ∀ k, k = r.ml ∨ ob r.pv = some k ∨ k ∈ r.fs.flatMap fFoot → w'.heap[k]? = w.heap[k]? := by
    intro k hm
    refine hk k ?_ ?_
    · rw [foot_iff]
      rcases hm with hm | hm | hm
      · exact .inr (.inr (.inl hm))
      · exact .inr (.inr (.inr (.inl hm)))
      · exact .inr (.inr (.inr (.inr hm)))
    · rcases hm with rfl | hm | hm
      · exact fun e => A.pl e.symm
      · exact (A.pv k hm).1
      · exact (A.fs k hm).1
  refine ⟨hc, hd, h.last.kept (hk' _ (.inl rfl)), h.pend.kept (fun k e => hk' k (.inr (.inl e))), h.len, ?_, ?_, ⟨h1, h2, h.wf.ids, h.wf.made, h.wf.nms, h.wf.cnms⟩⟩
  · exact fun i x f hx hf => (h.file i x f hx hf).kept fun k hm => hk' k (.inr (.inr (List.mem_flatMap.2 ⟨x, List.mem_of_getElem? hx, hm⟩)))
  · exact nodup_nowAt h.apart (fun hm => by have := h.lt b hm; omega)
/-- Numbers that are handed in: a slice, its cells outside F. -/
def KeepAt (w : World) (F : List Nat) (v : Value) (ks : List Int) : Prop :=
  ∃ a cap, v = .slice a ks.length cap ∧ cap ≤ maxLen ∧ ks.length ≤ cap ∧ ∀ i (h : i < ks.length), ∃ g o, a = some ⟨g, o, none⟩ ∧ g ∉ F ∧ w.cell? ⟨g, o + i, none⟩ = some (.int .i64 ks[i])
theorem keep_nil (w : World) (F : List Nat) : KeepAt w F (.slice none 0 0) [] := ⟨none, 0, rfl, Nat.zero_le _, Nat.le_refl _, fun i h => by cases h⟩
/-- What was pending is in order. -/
structure Coh (s : St) : Prop where
  able : able s.last s.pend
  now : s.now = redo s.last s.pend
theorem cuts_step (F : List Fil) (d : Dir) (ks : List Int) (k : Nat) (h : k < d.length) : cuts F (d.drop k) (ks.drop k) = cuts (F.set d[k].2 ((F.getD d[k].2 default).cut ((ks.drop k).headD 0))) (d.drop (k + 1)) (ks.drop (k + 1)) := by
  rw [List.drop_eq_getElem_cons h, cuts]
  congr 1
  rw [List.tail_drop]
theorem headD_drop (ks : List Int) (k : Nat) : (ks.drop k).headD 0 = if h : k < ks.length then ks[k] else 0 := by
  split
  · rename_i h
    rw [List.drop_eq_getElem_cons h]
    rfl
  · rename_i h
    rw [List.drop_of_length_le (by omega)]
    rfl
theorem crash_nil (dir : Int) (v : Value) (w : World) : Calls Tryz.prog 47 #[.pointer none, .int .i64 dir, v] w fun e w' => e = .returned (.tuple #[]) ∧ w = w' := by
  go_enter Tryz.func47, Tryz.ntmps47
  go_wp2
  exact bodyPost_ret (v := .tuple #[]) (by simp [results, Tryz.results47]) rfl ⟨rfl, rfl⟩
set_option maxHeartbeats 8000000 in
set_option maxRecDepth 100000 in
theorem crash_any {w : World} {r : Rep} {s : St} {n m : Nat} (h : Sys w r s) (hL : Lim n m s) (hN : n ≤ 100000) (hM : m ≤ 1000000000) (hC : Coh s) (dir : Int) (kv : Value) (ks : List Int) (hks : KeepAt w r.foot kv ks) :
    Calls Tryz.prog 47 #[.pointer (some ⟨r.p, 0, none⟩), .int .i64 dir, kv] w fun e w' => e = .returned (.tuple #[]) ∧ Next w r (s.crash dir ks) w' := by
  have hdirs := hL.dirs
  have c1 := h.c1
  have c4 := h.c4
  have c5 := h.c5
  have f1 := h.warm 1
  have f4 := h.warm 4
  have f5 := h.warm 5
  have f6 := h.warm 6
  obtain ⟨W1, hW1⟩ : ∃ W1, W1 = ((w.setCell ⟨r.p, 1, none⟩ (.bool false)).setCell ⟨r.p, 4, none⟩ (.int .i64 (-1))).setCell ⟨r.p, 5, none⟩ (.int .i64 (-1)) := ⟨_, rfl⟩
  have hs1 : Sys W1 r { s with on := false, fuse := -1, bad := -1 } := by
    rw [hW1]
    exact ((h.set (s' := { s with on := false }) 1 (.bool false) rfl rfl rfl rfl rfl).set (s' := { s with on := false, fuse := -1 }) 4 (.int .i64 (-1)) rfl rfl rfl rfl rfl).set (s' := { s with on := false, fuse := -1, bad := -1 }) 5 (.int .i64 (-1)) rfl rfl rfl rfl rfl
  have ht1 : Turn [r.p] w W1 := by
    rw [hW1]
    exact (((Turn.refl _ _).setCell (.inl (by simp)) _).setCell (.inl (by simp)) _).setCell (.inl (by simp)) _
  have hz1 : W1.heap.size = w.heap.size := by rw [hW1]; simp
  obtain ⟨K, hK⟩ : ∃ K, K = modn dir (s.pend.length + 1) := ⟨_, rfl⟩
  have hKl : K ≤ s.pend.length := by rw [hK]; have := modn_lt dir (s.pend.length + 1) (by omega); omega
  have HM := Lib.hid (fun W => modulo_any dir (s.pend.length + 1) W (by omega) (by omega))
  rw [← hK] at HM
  have hcr : s.crash dir ks = { s with on := false, fuse := -1, bad := -1, now := redo s.last (s.pend.take K), last := redo s.last (s.pend.take K), pend := [], files := cuts s.files (redo s.last (s.pend.take K)) ks } := by
    rw [hK]; rfl
  rw [hcr]
  clear hcr hK
  obtain ⟨pa, pcap, hpv, hpc, hpm⟩ := h.pend.le
  have hrow1 := hs1.pend.cut K hKl hpv
  have htk : (s.pend.flatMap (chgCells r.at)).take (K * 3) = (s.pend.take K).flatMap (chgCells r.at) := by
    have : ∀ (l : List Chg) (k : Nat), (l.flatMap (chgCells r.at)).take (k * 3) = (l.take k).flatMap (chgCells r.at) := by
      intro l
      induction l with
      | nil => intro k; simp
      | cons c l ih =>
        intro k
        cases k with
        | zero => simp
        | succ k =>
          rw [List.flatMap_cons, List.take_succ_cons, List.flatMap_cons, ← ih k]
          have hl : (chgCells r.at c).length = 3 := rfl
          rw [List.take_append, hl, List.take_of_length_le (by omega), show (k + 1) * 3 - 3 = k * 3 by omega]
    exact this s.pend K
  have hlk : (s.pend.take K).length = K := by simp; omega
  have Hredo := Lib.hid (redo_any r.ml (mapD r.at s.last) (.slice pa K pcap) (s.pend.take K) r.at W1.drew (hs1.last.kept rfl) (by
      rw [hlk, ← htk]
      exact hrow1.kept fun _ _ => rfl) (by
      have : ∀ (l : List Chg) (d : Dir), able d l → able (mapD r.at d) (l.map (Chg.map r.at)) := by
        intro l
        induction l with
        | nil => intro d _; trivial
        | cons c l ih => intro d ha; exact ⟨able_map ha.1, by rw [Chg.map_run]; exact ih _ ha.2⟩
      exact this _ _ (able_take _ _ K hC.able)) (by
      intro c hc
      have hc' := h.wf.cnms c (List.mem_of_mem_take hc)
      have nmlen : ∀ {x : Nm}, x = [] ∨ isNm x = true → x.length ≤ 1000 := by
        rintro x (rfl | hx)
        · simp
        · simp [isNm] at hx; omega
      exact ⟨nmlen hc'.1, nmlen hc'.2⟩) (by unfold mapD; simp; omega))
  rw [redo_map] at Hredo
  obtain ⟨d, hd⟩ : ∃ d, d = redo s.last (s.pend.take K) := ⟨_, rfl⟩
  rw [← hd] at Hredo ⊢
  have hdi : ∀ p ∈ d, p.2 < s.files.length := by
    rw [hd]
    exact redo_ids _ _ h.wf.ids (fun c hc => h.wf.made c (List.mem_of_mem_take hc))
  have hdn : ∀ p ∈ d, isNm p.1 = true := by
    rw [hd]
    exact redo_nms _ _ h.wf.nms (fun c hc => (h.wf.cnms c (List.mem_of_mem_take hc)).2)
  have hdl : d.length ≤ 100000 := by
    rw [hd]
    have := redo_length (s.pend.take K) s.last
    omega
  clear hd htk hrow1
  have p7 := hs1.c7
  have p8 : W1.cell? ⟨r.p, 8, none⟩ = some (.slice pa s.pend.length pcap) := by rw [← hpv]; exact hs1.c8
  have p6 := hs1.c6
  have g6 := hs1.warm 6
  have hw1 : IntKind.i64.wrap ((s.pend.length : Int) + 1) = ((s.pend.length + 1 : Nat) : Int) := by rw [wrap_same _ (by omega) (by omega)]; omega
  have hK0 : (0 : Int) ≤ (K : Int) := by omega
  have hKc : (K : Int) ≤ (pcap : Int) := by omega
  generalize s.pend.length + 1 = P1 at HM hw1
  have HW1 := Lib.hid hW1
  have Hz1 := Lib.hid hz1
  clear hW1 hz1
  go_enter Tryz.func47, Tryz.ntmps47
  go_upto_region 2 with fail
  rw [← HW1.out]
  go_cut [] (fun wx => ∃ w2, Below W1.heap.size W1 w2 ∧ DirAt w2 W1.heap.size (mapD r.at d) ∧ wx = w2.setCell ⟨r.p, 6, none⟩ (.map (some W1.heap.size)))
  case first =>
    have hpl1 : r.p < W1.heap.size := hs1.lt _ (by simp [Rep.foot])
    cases pa with
    | none =>
      go_region_held3 (fun w' => w'.cell? ⟨r.p, 7, none⟩ = some (.map (some r.ml)) ∧ w'.cell? ⟨r.p, 8, none⟩ = some (.slice none s.pend.length pcap)) (first | go_keep | exact ⟨k7, k8⟩ | exact ⟨cell_set k7 (by decide), cell_set k8 (by decide)⟩) (first | (go_at_call 168; refine (HM.out _).mono ?_; rintro e w1 ⟨rfl, rfl⟩) | (go_at_call 167; refine Hredo.out.mono ?_; rintro e w2 ⟨rfl, hd2, hb2⟩; have k7 : w2.cell? ⟨r.p, 7, none⟩ = some (.map (some r.ml)) := (hb2.cell (p := ⟨r.p, 7, none⟩) hpl1).trans p7; have k8 : w2.cell? ⟨r.p, 8, none⟩ = some (.slice none s.pend.length pcap) := (hb2.cell (p := ⟨r.p, 8, none⟩) hpl1).trans p8; have k6 : w2.cell? ⟨r.p, 6, none⟩ = some (.map (some r.mn)) := (hb2.cell (p := ⟨r.p, 6, none⟩) hpl1).trans p6; have g6' : w2.frozen? ⟨r.p, 6, none⟩ = false := (hb2.frozen (p := ⟨r.p, 6, none⟩) hpl1).trans g6))
      all_goals (go_wp2_with fail; go_meet; exact ⟨w2, ⟨hb2.os, hb2.tape, hb2.output, hb2.size, hb2.block⟩, hd2, rfl⟩)
    | some pa =>
      go_region_held3 (fun w' => w'.cell? ⟨r.p, 7, none⟩ = some (.map (some r.ml)) ∧ w'.cell? ⟨r.p, 8, none⟩ = some (.slice (some pa) s.pend.length pcap)) (first | go_keep | exact ⟨k7, k8⟩ | exact ⟨cell_set k7 (by decide), cell_set k8 (by decide)⟩) (first | (go_at_call 168; refine (HM.out _).mono ?_; rintro e w1 ⟨rfl, rfl⟩) | (go_at_call 167; refine Hredo.out.mono ?_; rintro e w2 ⟨rfl, hd2, hb2⟩; have k7 : w2.cell? ⟨r.p, 7, none⟩ = some (.map (some r.ml)) := (hb2.cell (p := ⟨r.p, 7, none⟩) hpl1).trans p7; have k8 : w2.cell? ⟨r.p, 8, none⟩ = some (.slice (some pa) s.pend.length pcap) := (hb2.cell (p := ⟨r.p, 8, none⟩) hpl1).trans p8; have k6 : w2.cell? ⟨r.p, 6, none⟩ = some (.map (some r.mn)) := (hb2.cell (p := ⟨r.p, 6, none⟩) hpl1).trans p6; have g6' : w2.frozen? ⟨r.p, 6, none⟩ = false := (hb2.frozen (p := ⟨r.p, 6, none⟩) hpl1).trans g6))
      all_goals (go_wp2_with fail; go_meet; exact ⟨w2, ⟨hb2.os, hb2.tape, hb2.output, hb2.size, hb2.block⟩, hd2, rfl⟩)
  case rest =>
    obtain ⟨w2, hb2, hd2, rfl⟩ := hcut
    have hs2 := hs1.below hb2
    have hs3 : Sys (w2.setCell ⟨r.p, 6, none⟩ (.map (some W1.heap.size))) (r.nowAt W1.heap.size) { s with on := false, fuse := -1, bad := -1, now := d } := by
      refine hs1.nowAt (Nat.le_refl _) (heap_setCell_same w2 r.p 6 _ _ _ hs2.cells) (hd2.kept (heap_setCell_other _ ⟨r.p, 6, none⟩ _ _ ?_)) (fun k hk hne => (heap_setCell_other _ ⟨r.p, 6, none⟩ _ _ hne).trans (hb2.block k (hs1.lt k hk))) hdi hdn
      intro e
      have := hs1.lt r.p (by simp [Rep.foot])
      have e' : W1.heap.size = r.p := e
      omega
    have ht3 : Turn r.foot w (w2.setCell ⟨r.p, 6, none⟩ (.map (some W1.heap.size))) := ((ht1.mono (G := r.foot) (by simp [Rep.foot])).trans (turn_of_below (F := []) hb2) (by simp)).setCell (.inl (by simp [Rep.foot])) _
    have hz3 : w.heap.size < (w2.setCell ⟨r.p, 6, none⟩ (.map (some W1.heap.size))).heap.size := by
      have := hd2.lt
      have hz := Hz1.out
      simp
      omega
    have hB : W1.heap.size = w.heap.size := Hz1.out
    generalize (w2.setCell ⟨r.p, 6, none⟩ (.map (some W1.heap.size))) = w3 at *
    rw [hB] at hs3
    clear hB hd2 hb2 hs2 p6 p7 p8 g6 HM Hredo hw1 hK0 hKc hpv hpc hpm hlk
    have q6 : w3.cell? ⟨r.p, 6, none⟩ = some (.map (some w.heap.size)) := hs3.c6
    have HN := Lib.hid (names_any w.heap.size _ w3 hs3.now (by unfold mapD; simp; omega))
    rw [mapD_names] at HN
    have hln : (mapD (r.nowAt w.heap.size).at d).length = d.length := by unfold mapD; simp
    rw [hln] at HN
    clear hln
    go_wp2_with (go_at_call 169; refine HN.out.mono ?_; rintro e w4 ⟨nv, rfl, hrow4, hb4, hf4⟩; obtain ⟨na, ncap, rfl, hnc, hncm⟩ := hrow4.le)
    have hs4 := hs3.below hb4
    have hfoot3 := hs3.lt
    have hfp : ∀ k, k ∈ (r.nowAt w.heap.size).foot → k ∈ r.foot ∨ k = w.heap.size := by
      intro k hk
      rw [foot_nowAt] at hk
      rw [foot_iff]
      rcases hk with hk | hk | hk | hk | hk
      · exact .inl (.inl hk)
      · exact .inr hk
      · exact .inl (.inr (.inr (.inl hk)))
      · exact .inl (.inr (.inr (.inr (.inl hk))))
      · exact .inl (.inr (.inr (.inr (.inr hk))))
    have hncell := hrow4.cell
    have hris : d.Pairwise (fun p q => p.1 ≠ q.1) := by
      have := hs4.now.rise keyS
      unfold Rise mapD at this
      rw [List.pairwise_map] at this
      exact rise_ne this
    go_loopw [6, 7, 8, 47] (fun _ _ _ iv wr => ∃ (k : Nat) (r' : Rep) (F : List Fil), k ≤ d.length ∧ iv = .int .i64 (k : Int) ∧ Sys wr r' { s with on := false, fuse := -1, bad := -1, now := d, files := F } ∧ r'.p = r.p ∧ r'.mn = w.heap.size ∧ Turn (r.nowAt w.heap.size).foot w4 wr ∧ (∀ x ∈ r'.foot, x ∈ (r.nowAt w.heap.size).foot) ∧ cuts F (d.drop k) (ks.drop k) = cuts s.files d ks ∧ ∀ f ∈ F, f.b.length ≤ m)
      (fun _ _ _ iv _ => d.length - (intOf iv).toNat)
    case atStart => exact ⟨0, _, s.files, Nat.zero_le _, rfl, hs4, rfl, rfl, Turn.refl _ _, fun _ hx => hx, rfl, hL.bytes⟩
    case round =>
      obtain ⟨k, r', F, hk, rfl, hsr, hrp, hrm, htr, hfr, hcu, hby⟩ := hrel
      by_cases hlt : k < d.length
      · obtain ⟨ng, no, hna⟩ : ∃ g o, na = some ⟨g, o, none⟩ ∧ True := by
          rcases hrow4.2 with ⟨h0, -⟩ | ⟨g, c, cur, hv, -⟩
          · omega
          · cases hv
            exact ⟨g, 0, rfl, trivial⟩
        obtain ⟨rfl, -⟩ := hna
        have hnm0 : (nmVals (d.map (·.1)))[k]? = some (.string ⟨d[k].1.toArray⟩) := by simp [nmVals, hlt, encStr]
        have hn4 := hncell ng no ncap rfl k _ hnm0
        have hngl : ng < w4.heap.size := World.block_lt_of_cell? w4 _ hn4
        have hngf : ng ∉ (r.nowAt w.heap.size).foot := by
          intro hm
          have h1 := hfoot3 ng hm
          have h2 := hf4 ng (by
            cases ncap with
            | zero => omega
            | succ c => rfl)
          omega
        have qn : wr.cell? ⟨ng, no + k, none⟩ = some (.string ⟨d[k].1.toArray⟩) := (htr.cell hngl hngf).trans hn4
        have qm : wr.cell? ⟨r.p, 6, none⟩ = some (.map (some w.heap.size)) := by rw [← hrp, ← hrm]; exact hsr.c6
        have hdg : dget d d[k].1 = some d[k].2 := dget_of_mem hris (List.getElem_mem hlt)
        have hdg' : dget ({ s with on := false, fuse := -1, bad := -1, now := d, files := F } : St).now d[k].1 = some d[k].2 := hdg
        obtain ⟨x, f, hx, hfi, hok, hat, hgd⟩ := hsr.here hdg'
        have hnsz : (⟨d[k].1.toArray⟩ : ByteArray).size ≤ maxLen := by
          have := hdn d[k] (List.getElem_mem hlt)
          simp [isNm] at this
          show d[k].1.length ≤ _
          unfold maxLen
          omega
        have hlook := dirLook hsr.now ⟨d[k].1.toArray⟩ hnsz
        rw [mapD_get] at hlook
        have e1 : dget d (⟨d[k].1.toArray⟩ : ByteArray).data.toList = some d[k].2 := hdg
        rw [e1, pAt_map, hat, hrm] at hlook
        have hxne := fFoot_ne hsr hx hok
        have hfl : f.b.length ≤ 1000000000 := Nat.le_trans (hby f (List.mem_of_getElem? hfi)) hM
        have Hcut := Lib.hid (fun kp => cut_any hok hxne kp hfl)
        have hstep := cuts_step F d ks k hlt
        have hgd' : F.getD d[k].2 default = f := hgd
        rw [hgd', headD_drop] at hstep
        obtain ⟨ka, kcap, hkv, hkm, hkc, hkcell⟩ := hks
        subst hkv
        generalize (⟨d[k].1.toArray⟩ : ByteArray) = NM at qn hlook
        have hfin := Lib.hid (show ∀ kp w6 v, kp = (if h : k < ks.length then ks[k] else 0) → FileOk w6 (x.1, v) (f.cut kp) → ob v = ob x.2 → Turn [x.1] wr w6 → ∃ (r'' : Rep) (F' : List Fil), Sys w6 r'' { s with on := false, fuse := -1, bad := -1, now := d, files := F' } ∧ r''.p = r.p ∧ r''.mn = w.heap.size ∧ Turn (r.nowAt w.heap.size).foot w4 w6 ∧ (∀ x ∈ r''.foot, x ∈ (r.nowAt w.heap.size).foot) ∧ cuts F' (d.drop (k + 1)) (ks.drop (k + 1)) = cuts s.files d ks ∧ ∀ f ∈ F', f.b.length ≤ m by
          intro kp w6 v hkp hok6 hov ht6
          have hxf : ∀ y ∈ [x.1], y ∈ (r.nowAt w.heap.size).foot ∨ w4.heap.size ≤ y := by
            intro y hy
            simp at hy
            subst hy
            exact .inl (hfr _ (hsr.fs_foot hx _ (by simp [fFoot])))
          refine ⟨r'.refile d[k].2 (x.1, v), F.set d[k].2 (f.cut kp), hsr.refile hx hfi hok6 rfl (.inl hov) (fun y hy hn => ht6.block y hy (by simp; intro e; exact hn (by simp [fFoot, e]))), hrp, hrm, htr.trans ht6 hxf, ?_, ?_, ?_⟩
          · intro y hy
            rcases refile_foot (B := y + 1) (x' := (x.1, v)) hx rfl (.inl hov) y hy with h' | h'
            · exact hfr y h'
            · omega
          · rw [hkp, ← hstep]
            exact hcu
          · intro g hg
            rcases List.mem_or_eq_of_mem_set hg with hg | rfl
            · exact hby g hg
            · unfold Fil.cut
              simp only [List.length_take]
              have := hby f (List.mem_of_getElem? hfi)
              omega)
        clear hstep hcu hdg hdg' e1 hnm0 hn4 hgd hgd' hat
        by_cases hkk : k < ks.length
        · obtain ⟨kg, ko, rfl, hkgf, hkc0⟩ := hkcell k hkk
          have hkgl : kg < w.heap.size := World.block_lt_of_cell? w _ hkc0
          have qk : wr.cell? ⟨kg, ko + k, none⟩ = some (.int .i64 ks[k]) := by
            rw [htr.cell (by have := hb4.size; omega) (by
              intro hm
              rcases hfp kg hm with h' | h'
              · exact hkgf h'
              · omega), hb4.cell (p := ⟨kg, ko + k, none⟩) (show kg < w3.heap.size by omega), ht3.cell hkgl hkgf]
            exact hkc0
          have hkd : decide ((k : Int) < (ks.length : Int)) = true := by simp; omega
          clear hkcell
          go_wp2_with (go_at_call 170; refine (Hcut.out _).mono ?_; rintro e w6 ⟨rfl, v6, hok6, hov6, ht6⟩)
          obtain ⟨r'', F', g1, g2, g3, g4, g5, g6', g7⟩ := hfin.out _ w6 v6 (by rw [dif_pos hkk]) hok6 hov6 ht6
          go_roundw
          case rel => exact ⟨k + 1, r'', F', by omega, by go_num, g1, g2, g3, g4, g5, g6', g7⟩
          case measure => simp [intOf]; omega
        · have hkd : decide ((k : Int) < (ks.length : Int)) = false := by simp; omega
          clear hkcell
          go_wp2_with (go_at_call 170; refine (Hcut.out _).mono ?_; rintro e w6 ⟨rfl, v6, hok6, hov6, ht6⟩)
          obtain ⟨r'', F', g1, g2, g3, g4, g5, g6', g7⟩ := hfin.out _ w6 v6 (by rw [dif_neg hkk]) hok6 hov6 ht6
          go_roundw
          case rel => exact ⟨k + 1, r'', F', by omega, by go_num, g1, g2, g3, g4, g5, g6', g7⟩
          case measure => simp [intOf]; omega
      · obtain rfl : k = d.length := by omega
        rw [List.drop_length] at hcu
        have hset := Lib.hid (settle_any hsr)
        rw [hrp] at hset
        go_wp2_with (go_at_call 171; refine hset.out.mono ?_; rintro e w6 ⟨rfl, hn6⟩)
        go_end0
        refine ⟨rfl, ?_⟩
        have hF : F = cuts s.files d ks := hcu
        subst hF
        refine hn6.after ((ht3.trans (turn_of_below (F := []) hb4) (by simp)).trans htr ?_) ?_ hrp
        · intro y hy
          rcases hfp y hy with h' | h'
          · exact .inl h'
          · exact .inr (by omega)
        · intro y hy
          rcases hfp y (hfr y hy) with h' | h'
          · exact .inl h'
          · exact .inr (by omega)
end Go.Proofs.YtlgcbapgbpofoaaGreat
