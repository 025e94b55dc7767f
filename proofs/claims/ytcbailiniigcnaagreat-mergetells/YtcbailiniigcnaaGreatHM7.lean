/- merge's heads: take. -/
import Derived.Test.YtcbailiniigcnaaGreatHM6
namespace Go.Proofs.YtcbailiniigcnaaGreat
open Go.ChangeShapes Go.WideShapes Go.ChangeAt Go.Deep Go.RowKit Go.Lib

/-- The array turned, the box as it was. -/
theorem HpI.with2 {B p : Nat} {v : Value} {H H' : List Hd} {w w' : World} {g c n : Nat} (h : HpI B w p v H) (hv : v = .slice (some ⟨g, 0, none⟩) n (c + 1)) (hR : Row w' 170 2 v H.length (cellsH H')) (hl : H'.length = H.length) (hm : ∀ x ∈ H', HdAt B w x) (ht : Turn [g] w w') : HpI B w' p v H' := by
  have hgp : g ≠ p := fun e => h.at_.apart (by rw [hv, e]; rfl)
  refine ⟨⟨(ht.block p h.at_.lt (by simp; exact fun e => hgp e.symm)).trans h.at_.1, by rw [hl]; exact hR⟩, h.box, h.arr, fun x hx => (hm x hx).turn ht h.lt (by
    intro y hy
    simp at hy
    subst hy
    exact h.arr y (by rw [hv]; rfl))⟩
/-- What is left of a list behind its first one. -/
def Hd.rest (h : Hd) : Hd := ⟨match h.a with | some a => some ⟨a.block, a.off + 4, none⟩ | none => none, h.c - 1, h.l.tail, h.i⟩
theorem HdAt.rest {n₀ : Nat} {w : World} {h : Hd} (hh : HdAt n₀ w h) (ht : h.l.tail ≠ []) : HdAt n₀ w h.rest := by
  obtain ⟨b, off, e, hlt, hne, hc⟩ := hh
  refine ⟨b, off + 4, by unfold Hd.rest; rw [e], hlt, ⟨ht, by show h.l.tail.length ≤ h.c - 1; rw [List.length_tail]; have := hne.2; omega⟩, fun i hi j u hu => ?_⟩
  have hi2 : i < h.l.tail.length := hi
  have hi3 : i + 1 < h.l.length := by rw [List.length_tail] at hi2; omega
  have := hc (i + 1) hi3 j u (by
    have e2 : h.rest.l[i] = h.l[i + 1] := List.getElem_tail (l := h.l) hi2
    rw [← e2]
    exact hu)
  rw [show off + 4 + i * 4 + j = off + (i + 1) * 4 + j by omega]
  exact this
theorem down_rest {h0 h1 : Hd} {T : List Hd} {n : Nat} (h : HeapH (h0 :: T) n) : HeapDn (h1 :: T) n 0 := by
  have hg : ∀ k, k ≠ 0 → (h1 :: T).getD k Hd.zero = (h0 :: T).getD k Hd.zero := fun k hk => by
    obtain ⟨j, rfl⟩ : ∃ j, k = j + 1 := ⟨k - 1, by omega⟩
    rfl
  constructor
  · intro a c ha hk hc
    rw [hg a ha, hg c (by unfold Kid at hk; omega)]
    exact h a c hk hc
  · intro a c hk
    unfold Kid at hk
    omega
set_option maxHeartbeats 8000000 in
set_option maxRecDepth 100000 in
theorem take_any (B p : Nat) (v : Value) (h0 : Hd) (T : List Hd) (w : World) (h : HpI B w p v (h0 :: T)) (hh : HeapH (h0 :: T) (h0 :: T).length) (hN : T.length ≤ 900000) :
    Calls Tryz.prog 87 #[.pointer (some ⟨p, 0, none⟩)] w fun e w' => e = .returned (ev h0.e.k h0.e.s h0.e.n h0.e.v) ∧ ∃ v' H', HpI B w' p v' H' ∧ Took (h0 :: T) H' ∧ Turn (hblk p v) w w' ∧ ob v' = ob v := by
  obtain ⟨n, hn⟩ : ∃ n, (h0 :: T).length = n := ⟨_, rfl⟩
  obtain ⟨g, c, hv, hgp, hgl, hnc, -⟩ := h.open (by simp)
  rw [hn] at hv hnc
  have hpos : 0 < n := by rw [← hn]; simp
  have u1 : (0 : Int) < (n : Int) := by omega
  have hx := h.hds h0 (by simp)
  have hlp := Hd.pos hx
  have hcap := Hd.cap hx
  obtain ⟨b, off, hb, hbl, x0, x1, x2, x3⟩ := hx.first
  have hrow := h.at_.2
  rw [hv, hn] at hrow
  obtain ⟨a0, a1⟩ := hsAt_of (by rw [hn]; exact hrow) hn.symm 0 (by omega)
  simp only [Nat.zero_mul, Nat.add_zero, Nat.zero_add, List.getD_cons_zero] at a0 a1
  rw [hb] at a0
  have hcell := h.at_.cell
  rw [hv] at hcell
  have hpl := h.at_.lt
  obtain ⟨L, hL⟩ : ∃ L, h0.l.length = L := ⟨_, rfl⟩
  rw [hL] at a0 hlp hcap
  have u2 : (0 : Int) < (L : Int) := by omega
  have hBw := h.lt
  have hbw : b < w.heap.size := by omega
  obtain ⟨W1, hW1⟩ : ∃ W, w.alloc (.cells #[.string ⟨#[]⟩, .int .u64 0, .int .i64 0, .string ⟨#[]⟩] 56) = W := ⟨_, rfl⟩
  have hb1 : Below w.heap.size w W1 := by rw [← hW1]; exact (Below.refl _ _).alloc (Nat.le_refl _) _
  have hs1 : W1.heap.size = w.heap.size + 1 := by rw [← hW1]; simp
  unfold ev
  generalize hE : h0.e = E at *
  obtain ⟨ek, es, en, ew⟩ := E
  simp only at x0 x1 x2 x3
  obtain ⟨W2, hW2⟩ : ∃ W, W1.alloc (.cells #[.string ek, .int .u64 es, .int .i64 en, .string ew] 56) = W := ⟨_, rfl⟩
  have hb12 : Below W1.heap.size W1 W2 := by rw [← hW2]; exact (Below.refl _ _).alloc (Nat.le_refl _) _
  have hs2 : W2.heap.size = W1.heap.size + 1 := by rw [← hW2]; simp
  have hb2 : Below w.heap.size w W2 := hb1.trans (hb12.mono (by omega))
  have r0 : W2.heap[w.heap.size]? = some (.cells #[.string ⟨#[]⟩, .int .u64 0, .int .i64 0, .string ⟨#[]⟩] 56 (0, 0)) := (hb12.block w.heap.size (by omega)).trans (by rw [← hW1]; exact heap_alloc_new w _)
  have r1 : W2.heap[W1.heap.size]? = some (.cells #[.string ek, .int .u64 es, .int .i64 en, .string ew] 56 (0, 0)) := by rw [← hW2]; exact heap_alloc_new W1 _
  have p1 := (hb1.cell (p := ⟨p, 0, none⟩) hpl).trans hcell
  have g1 := (hb1.cell (p := ⟨g, 0, none⟩) hgl).trans a0
  have y0 := (hb1.cell (p := ⟨b, _, none⟩) hbw).trans x0
  have y1 := (hb1.cell (p := ⟨b, _, none⟩) hbw).trans x1
  have y2 := (hb1.cell (p := ⟨b, _, none⟩) hbw).trans x2
  have y3 := (hb1.cell (p := ⟨b, _, none⟩) hbw).trans x3
  have g2 := (hb2.cell (p := ⟨g, 0, none⟩) hgl).trans a0
  have f2 : W2.frozen? ⟨g, 0, none⟩ = false := (World.frozen?_of_block (hb2.block g hgl)).trans (hrow_warm hrow rfl hpos 0)
  have HH := Lib.hid h
  have HH2 := Lib.hid (h.below hb2)
  have HB2 := Lib.hid hb2
  have HROW := Lib.hid (row_below hrow (hb2.mono (Nat.le_refl _)))
  have HV := Lib.hid hv
  have HHP := Lib.hid hh
  have HX := Lib.hid hx
  have HNF := Lib.hid (show w.heap.size ∉ hblk p v ∧ W1.heap.size ∉ hblk p v from ⟨fun e => by
    rcases mem_hblk.1 e with e | e
    · omega
    · have := h.at_.2.lt _ e; omega, fun e => by
    rcases mem_hblk.1 e with e | e
    · omega
    · have := h.at_.2.lt _ e; omega⟩)
  -- what holds behind the heap's call
  have HA := Lib.hid (show ∀ W3 v3 K, Turn (hblk p v) W2 W3 → HpI B W3 p v3 K → ob v3 = ob v → ((W3.cell? ⟨W1.heap.size, 0, none⟩ = some (.string ek) ∧ W3.cell? ⟨W1.heap.size, 1, none⟩ = some (.int .u64 es) ∧ W3.cell? ⟨W1.heap.size, 2, none⟩ = some (.int .i64 en) ∧ W3.cell? ⟨W1.heap.size, 3, none⟩ = some (.string ew)) ∧ (W3.cell? ⟨w.heap.size, 0, none⟩ = some (.string ⟨#[]⟩) ∧ W3.cell? ⟨w.heap.size, 1, none⟩ = some (.int .u64 0) ∧ W3.cell? ⟨w.heap.size, 2, none⟩ = some (.int .i64 0) ∧ W3.cell? ⟨w.heap.size, 3, none⟩ = some (.string ⟨#[]⟩)) ∧ (∀ j, W3.frozen? ⟨w.heap.size, j, none⟩ = false) ∧
      ∀ a b c d, HpI B ((((W3.setCell ⟨w.heap.size, 0, none⟩ a).setCell ⟨w.heap.size, 1, none⟩ b).setCell ⟨w.heap.size, 2, none⟩ c).setCell ⟨w.heap.size, 3, none⟩ d) p v3 K ∧ Turn (hblk p v) w ((((W3.setCell ⟨w.heap.size, 0, none⟩ a).setCell ⟨w.heap.size, 1, none⟩ b).setCell ⟨w.heap.size, 2, none⟩ c).setCell ⟨w.heap.size, 3, none⟩ d)) from fun W3 v3 K ht hk he => by
    have k0 : W3.heap[w.heap.size]? = _ := (ht.block w.heap.size (by omega) HNF.out.1).trans r0
    have k1 : W3.heap[W1.heap.size]? = _ := (ht.block W1.heap.size (by omega) HNF.out.2).trans r1
    have c0 : ∀ i u, (#[.string ⟨#[]⟩, .int .u64 0, .int .i64 0, .string ⟨#[]⟩] : Array Value)[i]? = some u → W3.cell? ⟨w.heap.size, i, none⟩ = some u := fun i u hu => by simp only [World.cell?, k0]; exact hu
    have c1 : ∀ i u, (#[.string ek, .int .u64 es, .int .i64 en, .string ew] : Array Value)[i]? = some u → W3.cell? ⟨W1.heap.size, i, none⟩ = some u := fun i u hu => by simp only [World.cell?, k1]; exact hu
    refine ⟨⟨c1 0 _ rfl, c1 1 _ rfl, c1 2 _ rfl, c1 3 _ rfl⟩, ⟨c0 0 _ rfl, c0 1 _ rfl, c0 2 _ rfl, c0 3 _ rfl⟩, fun j => by simp [World.frozen?, k0], fun a b c d => ?_⟩
    have t1 : Turn [w.heap.size] W3 ((((W3.setCell ⟨w.heap.size, 0, none⟩ a).setCell ⟨w.heap.size, 1, none⟩ b).setCell ⟨w.heap.size, 2, none⟩ c).setCell ⟨w.heap.size, 3, none⟩ d) := ((((Turn.refl _ _).setCell (.inl (by simp)) _).setCell (.inl (by simp)) _).setCell (.inl (by simp)) _).setCell (.inl (by simp)) _
    refine ⟨hk.turn t1 (fun x hx => ?_), ((turn_of_below hb2).trans ht (fun x hx => .inl hx)).trans t1 (fun x hx => .inr ?_)⟩
    · simp at hx
      subst hx
      refine ⟨fun e => HNF.out.1 (mem_hblk.2 ?_), hBw⟩
      rw [← he]
      exact mem_hblk.1 e
    · simp at hx
      omega)
  have HSZ := Lib.hid (show w.heap.size < W1.heap.size ∧ W1.heap.size < W2.heap.size from ⟨by omega, by omega⟩)
  clear h hh hx hrow hv hb1 hb12 hb2 hs1 hs2 r0 r1
  go_enter Tryz.func87, Tryz.ntmps87
  by_cases h1 : L = 1
  · subst h1
    have C1 := Lib.hid (gpop_any B p v h0 T W2 HH2.out HHP.out (by omega))
    have HTK := Lib.hid (show ∀ K, K.Perm T → HeapH K K.length → Took (h0 :: T) K from fun K hp hk => ⟨h0, T, rfl, hk, .inl ⟨by
      have : h0.l.tail.length = 0 := by rw [List.length_tail, hL]
      exact List.eq_nil_of_length_eq_zero this, hp⟩⟩)
    clear hL
    go_wp2_with fail
    go_at_call 116
    refine C1.out.mono ?_
    rintro e w3 ⟨rfl, v3, K, h3, hp3, hh3, ht3, ho3⟩
    obtain ⟨⟨c0, c1, c2, c3⟩, ⟨z0, z1, z2, z3⟩, hf, hend⟩ := HA.out w3 v3 K ht3 h3 ho3
    have HE := Lib.hid hend
    have f0 := hf 0
    have f1 := hf 1
    have f3 := hf 2
    have f4 := hf 3
    clear hend hf
    go_wp2_with fail
    refine bodyPost_ret (by simp [results, Tryz.results87, go_sem, z0, z1, z2, z3]; try rfl) rfl ?_
    exact ⟨rfl, v3, K, (HE.out _ _ _ _).1, HTK.out K hp3 hh3, (HE.out _ _ _ _).2, ho3⟩
  · have d1 : ((L : Int) == 1) = false := by rw [beq_eq_false_iff_ne]; omega
    obtain ⟨C, hC⟩ : ∃ C, h0.c = C := ⟨_, rfl⟩
    rw [hC] at hcap g2
    have u5 : (1 : Int) ≤ (L : Int) := by omega
    have u6 : (1 : Int) ≤ (C : Int) := by omega
    have u7 : ¬ C = 1 := by omega
    have u8 : ¬ C - 1 = 0 := by omega
    have htl : h0.l.tail.length = L - 1 := by rw [List.length_tail, hL]
    have htn : h0.l.tail ≠ [] := fun e => by rw [e] at htl; simp at htl; omega
    have hgo : ob v = some g := by
      obtain ⟨c', rfl⟩ : ∃ c', c = c' + 1 := ⟨c - 1, by omega⟩
      rw [HV.out]
      rfl
    obtain ⟨W3, hW3⟩ : ∃ W, W2.setCell ⟨g, 0, none⟩ (.slice (some ⟨b, off + 4, none⟩) (L - 1) (C - 1)) = W := ⟨_, rfl⟩
    have ht23 : Turn [g] W2 W3 := by rw [← hW3]; exact (Turn.refl _ _).setCell (.inl (by simp)) _
    have hp3 : HpI B W3 p v (h0.rest :: T) := by
      obtain ⟨c', rfl⟩ : ∃ c', c = c' + 1 := ⟨c - 1, by omega⟩
      refine HH2.out.with2 HV.out ?_ rfl (fun x hx => ?_) ht23
      · have hr := hrow_set HROW.out rfl rfl 0 (by omega) (.slice (some ⟨b, off + 4, none⟩) (L - 1) (C - 1))
        rw [Nat.add_zero, hW3] at hr
        have he : (cellsH (h0 :: T)).set 0 (.slice (some ⟨b, off + 4, none⟩) (L - 1) (C - 1)) = cellsH (h0.rest :: T) := by
          have e1 : cellsH (h0 :: T) = .slice h0.a h0.l.length h0.c :: .int .i64 (h0.i : Int) :: cellsH T := rfl
          have e2 : cellsH (h0.rest :: T) = .slice h0.rest.a h0.l.tail.length (h0.c - 1) :: .int .i64 (h0.i : Int) :: cellsH T := rfl
          have e3 : h0.rest.a = some ⟨b, off + 4, none⟩ := by unfold Hd.rest; rw [hb]
          rw [e1, e2, e3, htl, hC]
          rfl
        rw [he] at hr
        rw [HV.out, hn]
        exact hr
      · rcases List.mem_cons.1 hx with rfl | hx
        · exact (HH2.out.hds h0 (by simp)).rest htn
        · exact HH2.out.hds x (List.mem_cons_of_mem _ hx)
    have C2 := Lib.hid (gfix_any B p v (h0.rest :: T) W3 hp3 (by simp) (down_rest (h0 := h0) HHP.out) (by simp; omega))
    have HTK := Lib.hid (show ∀ K, K.Perm (h0.rest :: T) → HeapH K K.length → Took (h0 :: T) K from fun K hp hk => ⟨h0, T, rfl, hk, .inr ⟨h0.rest, rfl, rfl, htn, hp⟩⟩)
    have HT23 := Lib.hid (show Turn (hblk p v) W2 W3 from ht23.mono (fun x hx => by
      simp at hx
      subst hx
      exact .inl (mem_hblk.2 (.inr hgo))))
    clear hL hb htl htn hgo ht23 hp3 hn hnc
    go_wp2_with fail
    go_at_call 117
    refine C2.out.mono ?_
    rintro e w3 ⟨rfl, K, h3, hp3, hh3, ht3⟩
    obtain ⟨⟨c0, c1, c2, c3⟩, ⟨z0, z1, z2, z3⟩, hf, hend⟩ := HA.out w3 v K (HT23.out.trans ht3 (fun x hx => .inl hx)) h3 rfl
    have HE := Lib.hid hend
    have f0 := hf 0
    have f1 := hf 1
    have f3 := hf 2
    have f4 := hf 3
    clear hend hf
    go_wp2_with fail
    refine bodyPost_ret (by simp [results, Tryz.results87, go_sem, z0, z1, z2, z3]; try rfl) rfl ?_
    exact ⟨rfl, v, K, (HE.out _ _ _ _).1, HTK.out K hp3 hh3, (HE.out _ _ _ _).2, rfl⟩
end Go.Proofs.YtcbailiniigcnaaGreat
