/- Twin: the walk. -/
import Derived.Test.YtfndlfnlepndmaaGreatSKN
namespace Go.Proofs.YtfndlfnlepndmaaGreat
open Go.RowKit

theorem chunks_one (f : Nat → Nat) (cs : List Chg) : ∀ u ∈ cs.flatMap (chgCells f), u.oneCell' = true := by
  intro u hu
  obtain ⟨c, -, hc⟩ := List.mem_flatMap.1 hu
  exact one_chg u hc
theorem ables_map (f : Nat → Nat) : ∀ (l : List Chg) (d : Dir), able d l → able (mapD f d) (l.map (Chg.map f))
  | [], _, _ => trivial
  | c :: l, d, h => ⟨able_map h.1, by rw [Chg.map_run]; exact ables_map f l _ h.2⟩
theorem chg_len {c : Chg} (h : (c.src = [] ∨ isNm c.src = true) ∧ (c.dst = [] ∨ isNm c.dst = true)) : c.src.length ≤ 1000 ∧ c.dst.length ≤ 1000 := by
  have nmlen : ∀ {x : Nm}, x = [] ∨ isNm x = true → x.length ≤ 1000 := by
    rintro x (rfl | hx)
    · simp
    · simp [isNm] at hx; omega
  exact ⟨nmlen h.1, nmlen h.2⟩
theorem Sys.at_ {w : World} {r : Rep} {s : St} (h : Sys w r s) {i : Nat} (hi : i < s.files.length) : ∃ x f, r.fs[i]? = some x ∧ s.files[i]? = some f ∧ FileOk w x f ∧ r.at i = x.1 ∧ s.files.getD i nofil = f := by
  have hx := List.getElem?_eq_getElem (h.len ▸ hi : i < r.fs.length)
  have hf := List.getElem?_eq_getElem hi
  exact ⟨_, _, hx, hf, h.file i _ _ hx hf, by simp [Rep.at, List.getD_eq_getElem?_getD, hx], by simp [List.getD_eq_getElem?_getD, hf]⟩
set_option maxHeartbeats 4000000 in
set_option maxRecDepth 100000 in
theorem twin_any {w : World} {r : Rep} {s : St} {n m : Nat} (h : Sys w r s) (hC : Coh s) (hL : Lim n m s) (hN : n ≤ 100000) (hM : m ≤ 1000000000) :
    Calls Tryz.prog 8 #[.pointer (some ⟨r.p, 0, none⟩)] w fun e w' => ∃ r' s' f, e = .returned (.pointer (some ⟨r'.p, 0, none⟩)) ∧ Sys w' r' s' ∧ TwinOf s s' f ∧ (∀ k ∈ r'.foot, w.heap.size ≤ k) ∧ Below w.heap.size w w' := by
  have c0 := h.c0
  have c1 := h.c1
  have c2 := h.c2
  have c3 := h.c3
  have c4 := h.c4
  have c5 := h.c5
  have c6 := h.c6
  have c7 := h.c7
  have c8 := h.c8
  obtain ⟨pa, pc, hpv, hpc, hpm⟩ := h.pend.le
  have hrp : r.p < w.heap.size := h.lt _ (by simp [Rep.foot])
  have hrl : r.ml < w.heap.size := h.lt _ (by simp [Rep.foot])
  rw [hpv] at c8
  obtain ⟨TC, hTC⟩ : ∃ TC, TC = tCells r s (w.heap.size + 1) r.pv := ⟨_, rfl⟩
  have d7 : ∀ o1 o2, ((w.alloc o1).alloc o2).cell? ⟨r.p, 7, none⟩ = some (.map (some r.ml)) := fun o1 o2 => ocell (by simp; omega) (ocell hrp c7)
  have hris : Rise s.last := by
    have := h.last.rise keyS
    unfold Rise mapD at this
    rw [List.pairwise_map] at this
    exact this
  have hmm := @run_makeMap Tryz.prog
  have hB2 := Lib.hid (show ∀ o1 o2, Below w.heap.size w ((w.alloc o1).alloc o2) from fun o1 o2 => ((Below.refl _ _).alloc (Nat.le_refl _) o1).alloc (by simp) o2)
  have hown := Lib.hid (show ∀ o1 o2, OwnsDir Tryz.prog 9 ((w.alloc o1).alloc o2) r.ml (mapD r.at s.last) from fun o1 o2 => h.last.kept ((hB2.out o1 o2).block _ hrl))
  go_enter Tryz.func8, Tryz.ntmps8
  go_wp2_with (first
    | (at_range; refine wpList_range_own _ rfl _ 67 rfl 9 76 keyS dirT _ r.ml _ _ rfl (hown.out _ _) ?_; intro w0 hrg0 hg0 hs0)
    | go_in)
  go_frame
  have hI : ∀ o1 o2, ((w.alloc o1).alloc o2).heap.size = w.heap.size + 2 := fun _ _ => by simp
  rw [hI] at hrg0 ⊢
  go_loopw [4, 5] (fun _ _ wr => ∃ (left : Lit → Bool) (cnt : Nat) (G : Nm → Nat × Value), wr.ranges Tryz.prog 9 pElem r.ml (w.heap.size + 2) (mapD r.at s.last).length (.map (encD (mapD r.at s.last))) left cnt ∧ Half w wr r s left G)
    (fun _ _ wr => wr.rangeLeft r.ml (w.heap.size + 2))
  case atStart =>
    have hall : ∀ p ∈ s.last, Maps.has (DataW.map (encD (mapD r.at s.last))) (.string p.1) = true := by
      intro p hp
      rw [encD_has, mapD_get]
      have : (dget s.last p.1).isSome = true := by
        unfold dget
        rw [Option.isSome_map, List.isSome_find?]
        exact List.any_eq_true.2 ⟨p, hp, by simp⟩
      simpa using this
    refine ⟨_, _, fun _ => nofile, hrg0, ?_⟩
    have hgb := hg0.block
    have hsz := hs0
    rw [hI] at hgb hsz
    refine ⟨(hB2.out _ _).trans ⟨hg0.os, hg0.tape, hg0.output, hg0.size, fun k hk => hgb k (by omega) (by simp)⟩, by omega, ?_, ?_, fun p hp hl => ?_, fun p hp hl => ?_, fun p hp hl => ?_, fun p hp _ _ hl => ?_⟩
    · refine (hgb _ (by omega) (by simp)).trans ((Below.heap_alloc _ _ _ (by simp)).trans ?_)
      rw [heap_alloc_new]
      unfold tCells
      rw [hpv]
    · rw [doneD_start hall]
      have hm := World.ownsMap_made (w.alloc (.cells #[.bool s.made, .bool s.on, .int .i64 s.room, .int .i64 s.steps, .int .i64 s.fuse, .int .i64 s.bad, .map (some r.mn), .map (some (w.heap.size + 1)), .slice pa s.pend.length pc] 70)) Tryz.prog 9 pElem
      have e : (w.alloc (.cells #[.bool s.made, .bool s.on, .int .i64 s.room, .int .i64 s.steps, .int .i64 s.fuse, .int .i64 s.bad, .map (some r.mn), .map (some (w.heap.size + 1)), .slice pa s.pend.length pc] 70)).heap.size = w.heap.size + 1 := by simp
      rw [e] at hm
      exact OwnsDir.kept (l := []) hm (hgb _ (by omega) (by simp))
    all_goals
      rw [hall p hp] at hl
      cases hl
  case round =>
    obtain ⟨left, cnt, G, hrg, hhf⟩ := hrel
    go_wp2_with (first
      | (at_next; refine wpList_next_ranges _ rfl _ rfl 9 keyS pElem encStr pAt (fun key kl hk => by obtain ⟨x, hx, -⟩ := Maps.keyOf_str Tryz.underlying9 hk; exact ⟨x, hx⟩) (fun v y hv => pinv hv) r.ml (w.heap.size + 2) _ _ _ _ rfl hrg ?_ ?_)
      | go_in)
    · intro _ hl0
      have q8 : wr.cell? ⟨r.p, 8, none⟩ = some (.slice pa s.pend.length pc) := (hhf.bel.cell (p := ⟨r.p, 8, none⟩) hrp).trans c8
      have hpl := hL.dirs
      have hrowr := h.pend.kept (w' := wr) (fun k hk => hhf.bel.block k (h.lt k (by simp [Rep.foot, r.mem_pv hk])))
      have HCl := Lib.hid (scloneC_any r.pv s.pend.length (s.pend.flatMap (chgCells r.at)) wr hrowr (by omega) (chunks_one _ _))
      rw [hpv] at HCl
      have ht0 : w.heap.size < wr.heap.size := by have := hhf.size; omega
      have k8 : wr.cell? ⟨w.heap.size, 8, none⟩ = some (.slice pa s.pend.length pc) := by simp [World.cell?, hhf.tc, tCells, hpv]
      have f8 : wr.frozen? ⟨w.heap.size, 8, none⟩ = false := by simp [World.frozen?, hhf.tc]
      clear hrowr
      go_wp2_with (go_at_call 26; refine HCl.out.mono ?_; rintro e w5 ⟨pv5, rfl, hrow5, hb5, hob5⟩; obtain ⟨a5, c5, rfl, hc5, hm5⟩ := hrow5.le; have k85 : w5.cell? ⟨w.heap.size, 8, none⟩ = some (.slice pa s.pend.length pc) := (hb5.cell (p := ⟨w.heap.size, 8, none⟩) ht0).trans k8; have f85 : w5.frozen? ⟨w.heap.size, 8, none⟩ = false := (hb5.frozen (p := ⟨w.heap.size, 8, none⟩) ht0).trans f8)
      have HMID := Lib.hid (hhf.mid hris hl0 hb5 hrow5 hob5)
      generalize w5.setCell ⟨w.heap.size, 8, none⟩ (.slice a5 s.pend.length c5) = w6 at HMID ⊢
      clear hhf hrg k85 f85 k8 f8 q8 HCl hrow5 hob5 hb5 d7 hmm hB2 hown hI
      have hcs := hL.bytes
      go_loopw [6, 7, 39] (fun _ _ iv wx => ∃ (k : Nat) (M : List (Nat × Value)), iv = .int .i64 (k : Int) ∧ k ≤ s.pend.length ∧ Mid w wx r s G (.slice a5 s.pend.length c5) M k) (fun _ _ iv _ => s.pend.length - (intOf iv).toNat)
      case atStart => exact ⟨0, [], rfl, Nat.zero_le _, HMID.out⟩
      case round =>
        obtain ⟨k, M, rfl, hk, hM2⟩ := hrel
        by_cases hlt : k < s.pend.length
        · obtain ⟨g, rfl⟩ : ∃ g, a5 = some ⟨g, 0, none⟩ := by
            rcases hM2.row.2 with ⟨h0, -⟩ | ⟨g, cap, cur, hv, -⟩
            · omega
            · simp only [Value.slice.injEq] at hv
              exact ⟨g, hv.1⟩
          have hck := List.getElem?_eq_getElem hlt
          generalize s.pend[k] = c at hck
          have hA : ((renum s.last.length (s.pend.take k)).flatMap (chgCells (atOf (FSof s G ++ M)))).length = k * 3 := by
            rw [chunks_length, renum_length, List.length_take, Nat.min_eq_left (by omega)]
          have hcell : ∀ j u, (chgCells r.at c)[j]? = some u → wr.cell? ⟨g, k * 3 + j, none⟩ = some u := fun j u hu => by
            have := hM2.row.cell g 0 c5 rfl (k * 3 + j) u (by
              rw [drop_succ hck, List.flatMap_cons, List.getElem?_append_right (by omega), hA, show k * 3 + j - k * 3 = j by omega, List.getElem?_append_left (List.getElem?_eq_some_iff.1 hu).1]
              exact hu)
            rw [Nat.zero_add] at this
            exact this
          have p0 : wr.cell? ⟨g, k * 3, none⟩ = some (.string ⟨c.src.toArray⟩) := hcell 0 _ rfl
          have p1 : wr.cell? ⟨g, k * 3 + 1, none⟩ = some (.string ⟨c.dst.toArray⟩) := hcell 1 _ rfl
          have p2 : wr.cell? ⟨g, k * 3 + 2, none⟩ = some (pAt (c.made.map r.at)) := hcell 2 _ rfl
          have hkl : (k : Int) < (s.pend.length : Int) := by omega
          have hTl : w.heap.size < wr.heap.size := hM2.lt _ (by simp [midFoot])
          have tt8 : wr.cell? ⟨w.heap.size, 8, none⟩ = some (.slice (some ⟨g, 0, none⟩) s.pend.length c5) := by simp [World.cell?, hM2.tc, tCells]
          have hgl : g < wr.heap.size := World.block_lt_of_cell? wr _ p0
          have gf : wr.frozen? ⟨g, k * 3 + 2, none⟩ = false := hM2.row.warm rfl (by omega) _
          have hgT : g ≠ w.heap.size := by
            intro e
            have h1 := (List.nodup_cons.1 hM2.nod).1
            obtain ⟨a', c', hv, hc1, -⟩ := hM2.row.le
            have hc0 : ∃ c0, c5 = c0 + 1 := by
              simp only [Value.slice.injEq] at hv
              exact ⟨c5 - 1, by omega⟩
            obtain ⟨c0, rfl⟩ := hc0
            exact h1 (by rw [← e]; simp [ob])
          have hgn : g ≠ wr.heap.size := by omega
          have HM2 := Lib.hid hM2
          have Hck := Lib.hid hck
          clear hcell hA hck hM2
          cases hmd : c.made with
          | none =>
            rw [hmd] at p2
            replace p2 : wr.cell? ⟨g, k * 3 + 2, none⟩ = some (.pointer none) := p2
            have hwa : Below wr.heap.size wr (wr.alloc (.cells #[.string ⟨c.src.toArray⟩, .string ⟨c.dst.toArray⟩, .pointer none] 80)) := (Below.refl _ _).alloc (Nat.le_refl _) _
            have t8 : (wr.alloc (.cells #[.string ⟨c.src.toArray⟩, .string ⟨c.dst.toArray⟩, .pointer none] 80)).cell? ⟨w.heap.size, 8, none⟩ = some (.slice (some ⟨g, 0, none⟩) s.pend.length c5) := ocell hTl tt8
            have t2 : (wr.alloc (.cells #[.string ⟨c.src.toArray⟩, .string ⟨c.dst.toArray⟩, .pointer none] 80)).cell? ⟨wr.heap.size, 2, none⟩ = some (.pointer none) := ncell rfl rfl
            have tg : (wr.alloc (.cells #[.string ⟨c.src.toArray⟩, .string ⟨c.dst.toArray⟩, .pointer none] 80)).cell? ⟨g, k * 3 + 2, none⟩ = some (.pointer none) := ocell hgl p2
            have tf : (wr.alloc (.cells #[.string ⟨c.src.toArray⟩, .string ⟨c.dst.toArray⟩, .pointer none] 80)).frozen? ⟨g, k * 3 + 2, none⟩ = false := (hwa.frozen (p := ⟨g, k * 3 + 2, none⟩) hgl).trans gf
            have tn : ((wr.setCell ⟨g, k * 3 + 2, none⟩ (.pointer none)).alloc (.cells #[.string ⟨c.src.toArray⟩, .string ⟨c.dst.toArray⟩, .pointer none] 80)).cell? ⟨wr.heap.size, 2, none⟩ = some (.pointer none) := ncell (by simp) rfl
            have HST := Lib.hid (fun w3 (hb3 : Below wr.heap.size wr w3) => HM2.out.step_none Hck.out hmd hb3 rfl)
            go_wp2
            go_region_held3 (fun w' => w'.cell? ⟨w.heap.size, 8, none⟩ = some (.slice (some ⟨g, 0, none⟩) s.pend.length c5) ∧ w'.cell? ⟨wr.heap.size, 2, none⟩ = some (.pointer none)) (first | go_keep | (refine ⟨?_, ncell (by simp) rfl⟩; go_keep) | exact ⟨k1, k2⟩ | exact ⟨(World.cell?_setCell_far _ _ _ _ hgT).trans k1, (World.cell?_setCell_far _ _ _ _ hgn).trans k2⟩) (first | (go_at_call 25; refine (ctwin_nil _).mono ?_; rintro e w3 ⟨rfl, rfl⟩) | fail)
            all_goals go_wp2
            all_goals
              have m1 := HST.out wr (Below.refl _ _)
              have m2 := m1.kept (w' := ((wr.setCell ⟨g, k * 3 + 2, none⟩ (.pointer none)).alloc (.cells #[.string ⟨c.src.toArray⟩, .string ⟨c.dst.toArray⟩, .pointer none] 80)).drew) ((m1.bel.alloc m1.bel.size _).drew) (fun x _ hx => Below.heap_alloc _ _ x hx)
            all_goals go_roundw
            all_goals first
              | exact ⟨k + 1, M, by go_num, by omega, m2⟩
              | (simp [intOf]; omega)
          | some j =>
            have hji : j < s.files.length := h.wf.made c (List.mem_of_getElem? Hck.out) j hmd
            obtain ⟨x, f, hx, hfi, hok, hxat, hgd⟩ := h.at_ hji
            rw [hmd] at p2
            replace p2 : wr.cell? ⟨g, k * 3 + 2, none⟩ = some (.pointer (some ⟨x.1, 0, none⟩)) := by
              rw [p2, ← hxat]
              rfl
            have hwa : Below wr.heap.size wr (wr.alloc (.cells #[.string ⟨c.src.toArray⟩, .string ⟨c.dst.toArray⟩, .pointer (some ⟨x.1, 0, none⟩)] 80)) := (Below.refl _ _).alloc (Nat.le_refl _) _
            have t8 : (wr.alloc (.cells #[.string ⟨c.src.toArray⟩, .string ⟨c.dst.toArray⟩, .pointer (some ⟨x.1, 0, none⟩)] 80)).cell? ⟨w.heap.size, 8, none⟩ = some (.slice (some ⟨g, 0, none⟩) s.pend.length c5) := ocell hTl tt8
            have t2 : (wr.alloc (.cells #[.string ⟨c.src.toArray⟩, .string ⟨c.dst.toArray⟩, .pointer (some ⟨x.1, 0, none⟩)] 80)).cell? ⟨wr.heap.size, 2, none⟩ = some (.pointer (some ⟨x.1, 0, none⟩)) := ncell rfl rfl
            have tg : (wr.alloc (.cells #[.string ⟨c.src.toArray⟩, .string ⟨c.dst.toArray⟩, .pointer (some ⟨x.1, 0, none⟩)] 80)).cell? ⟨g, k * 3 + 2, none⟩ = some (.pointer (some ⟨x.1, 0, none⟩)) := ocell hgl p2
            have tf : (wr.alloc (.cells #[.string ⟨c.src.toArray⟩, .string ⟨c.dst.toArray⟩, .pointer (some ⟨x.1, 0, none⟩)] 80)).frozen? ⟨g, k * 3 + 2, none⟩ = false := (hwa.frozen (p := ⟨g, k * 3 + 2, none⟩) hgl).trans gf
            have hbw := HM2.out.bel
            have hfl : f.b.length ≤ 1000000000 := Nat.le_trans (hcs f (List.mem_of_getElem? hfi)) hM
            have HT := Lib.hid (ctwin_any (w := (wr.alloc (.cells #[.string ⟨c.src.toArray⟩, .string ⟨c.dst.toArray⟩, .pointer (some ⟨x.1, 0, none⟩)] 80)).drew) (x := x) (f := f) (hok.kept (fun y hy => by
              have hyl := h.lt y (h.fs_foot hx y hy)
              exact (Below.heap_alloc wr _ y (Nat.lt_of_lt_of_le hyl hbw.size)).trans (hbw.block y hyl))) hfl)
            have HST := Lib.hid (fun w3 (hb3 : Below wr.heap.size wr w3) x' hok3 hf3 hn3 => HM2.out.step_some Hck.out hmd hb3 rfl (x' := x') (by rw [hgd]; exact hok3) hf3 hn3)
            have HWA := Lib.hid hwa
            have hAs : (wr.alloc (.cells #[.string ⟨c.src.toArray⟩, .string ⟨c.dst.toArray⟩, .pointer (some ⟨x.1, 0, none⟩)] 80)).drew.heap.size = wr.heap.size + 1 := by simp
            have HAs := Lib.hid hAs
            clear hwa hAs
            go_wp2
            go_region_held3 (fun w' => w'.cell? ⟨w.heap.size, 8, none⟩ = some (.slice (some ⟨g, 0, none⟩) s.pend.length c5) ∧ w'.cell? ⟨wr.heap.size, 2, none⟩ = some (.pointer (some ⟨x.1, 0, none⟩))) (first | go_keep | (refine ⟨?_, ncell (by simp) rfl⟩; go_keep) | exact ⟨k1, k2⟩ | exact ⟨(World.cell?_setCell_far _ _ _ _ hgT).trans k1, (World.cell?_setCell_far _ _ _ _ hgn).trans k2⟩) (first | (go_at_call 25; refine HT.out.mono ?_; rintro e w3 ⟨x', rfl, hok3, hb3, hf3, hn3⟩; have hs3 := HAs.out; have k1 : w3.cell? ⟨w.heap.size, 8, none⟩ = some (.slice (some ⟨g, 0, none⟩) s.pend.length c5) := (hb3.cell (p := ⟨w.heap.size, 8, none⟩) (show w.heap.size < _ by omega)).trans t8; have k2 : w3.cell? ⟨wr.heap.size, 2, none⟩ = some (.pointer (some ⟨x.1, 0, none⟩)) := (hb3.cell (p := ⟨wr.heap.size, 2, none⟩) (show wr.heap.size < _ by omega)).trans t2; have k3 : w3.cell? ⟨g, k * 3 + 2, none⟩ = some (.pointer (some ⟨x.1, 0, none⟩)) := (hb3.cell (p := ⟨g, k * 3 + 2, none⟩) (show g < _ by omega)).trans tg; have k4 : w3.frozen? ⟨g, k * 3 + 2, none⟩ = false := (hb3.frozen (p := ⟨g, k * 3 + 2, none⟩) (show g < _ by omega)).trans tf; clear hs3) | fail)
            all_goals go_wp2
            all_goals
              have hs3 := HAs.out
              have b3 : Below wr.heap.size wr w3 := HWA.out.trans ⟨hb3.os, hb3.tape, hb3.output, by have := hb3.size; simp at this ⊢; omega, fun y hy => hb3.block y (by omega)⟩
              have m2 := HST.out w3 b3 x' hok3 (fun y hy => by have := hf3 y hy; omega) hn3
            all_goals go_roundw
            all_goals first
              | exact ⟨k + 1, _, by go_num, by omega, m2⟩
              | (simp [intOf]; omega)
        · obtain rfl : k = s.pend.length := by omega
          have hTw := twin_of h.wf
          have hwf' := hTw.wf h.wf hC
          have hlim' := hTw.lim hC hL
          have hTl : w.heap.size < wr.heap.size := hM2.lt _ (by simp [midFoot])
          have t7 : wr.cell? ⟨w.heap.size, 7, none⟩ = some (.map (some (w.heap.size + 1))) := by simp [World.cell?, hM2.tc, tCells]
          have t8 : wr.cell? ⟨w.heap.size, 8, none⟩ = some (.slice a5 s.pend.length c5) := by simp [World.cell?, hM2.tc, tCells]
          have t6 : wr.cell? ⟨w.heap.size, 6, none⟩ = some (.map (some r.mn)) := by simp [World.cell?, hM2.tc, tCells]
          have f6 : wr.frozen? ⟨w.heap.size, 6, none⟩ = false := by simp [World.frozen?, hM2.tc]
          have Hredo := Lib.hid (redo_any (w.heap.size + 1) (mapD (atOf (FSof s G ++ M)) (idxD 0 s.last)) (.slice a5 s.pend.length c5) (renum s.last.length s.pend) (atOf (FSof s G ++ M)) wr hM2.lastm hM2.pendm (ables_map _ _ _ (hTw.coh hC).able) (fun c hc => chg_len (hwf'.cnms c hc)) (by
            have h1 := hlim'.dirs
            have h2 : (mapD (atOf (FSof s G ++ M)) (idxD 0 s.last)).length = (idxD 0 s.last).length := by unfold mapD; simp
            rw [h2]
            have h3 : (twinSt s).last.length + (twinSt s).pend.length = (idxD 0 s.last).length + (renum s.last.length s.pend).length := rfl
            omega))
          rw [redo_map] at Hredo
          have HM2 := Lib.hid hM2
          clear hM2
          go_wp2_with (go_at_call 27; refine Hredo.out.mono ?_; rintro e w7 ⟨rfl, hd7, hb7⟩; have k6 : w7.cell? ⟨w.heap.size, 6, none⟩ = some (.map (some r.mn)) := (hb7.cell (p := ⟨w.heap.size, 6, none⟩) hTl).trans t6; have g6 : w7.frozen? ⟨w.heap.size, 6, none⟩ = false := (hb7.frozen (p := ⟨w.heap.size, 6, none⟩) hTl).trans f6)
          go_ret
          refine ⟨twinRep w wr.heap.size (.slice a5 s.pend.length c5) (FSof s G ++ M), twinSt s, _, rfl, HM2.out.sys h.wf hC hb7 (Nat.le_refl _) hd7, hTw, fun y hy => ?_, ?_⟩
          · have hfar := HM2.out.far
            have hy' : y = w.heap.size ∨ y = wr.heap.size ∨ y ∈ (w.heap.size + 1) :: ((ob (.slice a5 s.pend.length c5)).toList ++ (FSof s G ++ M).flatMap fFoot) := by
              have : y ∈ w.heap.size :: wr.heap.size :: (w.heap.size + 1) :: ((ob (.slice a5 s.pend.length c5)).toList ++ (FSof s G ++ M).flatMap fFoot) := hy
              rcases List.mem_cons.1 this with h1 | h1
              · exact .inl h1
              · rcases List.mem_cons.1 h1 with h1 | h1
                · exact .inr (.inl h1)
                · exact .inr (.inr h1)
            rcases hy' with h1 | h1 | h1
            · omega
            · omega
            · exact hfar y (List.mem_cons_of_mem _ h1)
          · exact (HM2.out.bel.trans (hb7.mono HM2.out.bel.size)).trans ⟨rfl, rfl, rfl, by simp, fun x hx => heap_setCell_other _ ⟨w.heap.size, 6, none⟩ _ _ (by show x ≠ w.heap.size; omega)⟩
    · intro y c kl yd yp w2 cnt2 hkey hlk hv hat hrg2 hlt hg2 hs2 hen
      obtain ⟨y', ey, rfl, hyl⟩ := Maps.keyOf_str Tryz.underlying9 hkey
      obtain rfl : y = y' := encStr_inj ey
      obtain ⟨i, hgi, hc⟩ : ∃ i, dget s.last y = some i ∧ c = some (r.at i) := by
        have e1 := hat .nil
        have e2 := hat (.lit (.bool true))
        rw [encD_at, mapD_get] at e1 e2
        cases hgi : dget s.last y with
        | none =>
          rw [hgi] at e1 e2
          simp at e1 e2
          rw [← e1] at e2
          cases e2
        | some i =>
          rw [hgi] at e1
          simp at e1
          subst e1
          refine ⟨i, rfl, ?_⟩
          cases c with
          | none => simp [pAt, pElem] at hv
          | some b =>
            simp only [pAt, pElem_some, Option.some.injEq, Prod.mk.injEq, DataW.lit.injEq, Lit.int.injEq, true_and] at hv
            have := hv.1
            congr 1
            omega
      subst hc
      have hyi := mem_of_dget hgi
      obtain ⟨x, f, hx, hfi, hok, hxat, hgd⟩ := h.at_ (h.wf.ids _ hyi)
      have hp : pAt (some (r.at i)) = .pointer (some ⟨x.1, 0, none⟩) := by rw [hxat]; rfl
      rw [hp] at hen ⊢
      have hbel2 : Below w.heap.size w w2 := hhf.bel.trans ⟨hg2.os, hg2.tape, hg2.output, hg2.size, fun k hk => hg2.block k (by have := hhf.size; omega) (by simp; omega)⟩
      have hh2 : Half w w2 r s left G := hhf.kept hbel2 (by omega) (fun k _ hne hk => hg2.block k hk (by simpa using hne))
      have hok2 : FileOk w2 x f := hok.kept (fun k hk => hbel2.block k (h.lt k (h.fs_foot hx k hk)))
      have hfl : f.b.length ≤ 1000000000 := Nat.le_trans (hL.bytes f (List.mem_of_getElem? hfi)) hM
      have HT := Lib.hid (show Calls Tryz.prog 25 #[.pointer (some ⟨x.1, 0, none⟩)] w2.drew fun e w' => ∃ x', e = .returned (.pointer (some ⟨x'.1, 0, none⟩)) ∧ FileOk w' x' f ∧ Below w2.heap.size w2 w' ∧ (∀ k ∈ fFoot x', w2.heap.size ≤ k) ∧ (fFoot x').Nodup from by
        refine (ctwin_any (w := w2.drew) ⟨hok2.cells, hok2.row.kept (fun _ _ => rfl), hok2.syn⟩ hfl).mono ?_
        rintro e w' ⟨x', e1, e2, e3, e4, e5⟩
        exact ⟨x', e1, e2, ⟨e3.os, e3.tape, e3.output, e3.size, e3.block⟩, e4, e5⟩)
      have k7 : w2.cell? ⟨w.heap.size, 7, none⟩ = some (.map (some (w.heap.size + 1))) := by simp [World.cell?, hh2.tc, tCells]
      have hdl : (doneD left (fun n => (G n).1) s.last).length < maxLen := by
        have h1 : (doneD left (fun n => (G n).1) s.last).length ≤ s.last.length := by
          unfold doneD
          rw [List.length_map]
          exact List.length_filter_le _ _
        have h2 := hL.dirs
        unfold maxLen
        omega
      have HU := Lib.hid (fun w3 (hb3 : Below w2.heap.size w2 w3) (x1 : Nat) => World.ownsMap.update (hh2.dir.kept (hb3.block _ (by have := hh2.size; omega))) keyS (t := 67) dirT hdl hkey (pElem_some x1))
      have hs2' := hh2.size
      have HH2 := Lib.hid hh2
      have Hgd := Lib.hid hgd
      clear hs2 hp hat hv hgi hgd ey hkey hh2 hhf hdl
      go_wp2
      go_region_held3 (fun w' => w'.cell? ⟨w.heap.size, 7, none⟩ = some (.map (some (w.heap.size + 1)))) (first | go_keep | exact k73 | exact k74) (first | (go_at_call 25; refine HT.out.mono ?_; rintro e w3 ⟨x', rfl, hok3, hb3, hf3, hn3⟩; have k73 : w3.cell? ⟨w.heap.size, 7, none⟩ = some (.map (some (w.heap.size + 1))) := (hb3.cell (p := ⟨w.heap.size, 7, none⟩) (show w.heap.size < w2.heap.size by omega)).trans k7; obtain ⟨w4, hrun4, hown4, hgrow4⟩ := HU.out w3 hb3 x'.1; have k74 : w4.cell? ⟨w.heap.size, 7, none⟩ = some (.map (some (w.heap.size + 1))) := (World.cell?_of_block (hgrow4.block w.heap.size (by have := hb3.size; omega) (by simp))).trans k73) | fail)
      all_goals go_wp2
      all_goals
        have hmlt : r.ml < w2.heap.size := by omega
        have hrg4 := (hrg2.kept (w' := w3) (row := none) ⟨hb3.os, hb3.tape, hb3.output, hb3.size, fun k hk _ => hb3.block k hk⟩ (by simp) (by simp)).kept hgrow4 (by simp; omega) (by simp)
        have hh4 := HH2.out.step hris hyi hlk (by rw [Hgd.out]; exact hok3) hb3 hf3 hn3 (DirAt.stored hown4) hgrow4
      all_goals go_roundw
      all_goals first
        | exact ⟨_, cnt2, _, hrg4, hh4⟩
        | (rw [hrg4.left_eq, hrg.left_eq]; exact hlt)
end Go.Proofs.YtfndlfnlepndmaaGreat
