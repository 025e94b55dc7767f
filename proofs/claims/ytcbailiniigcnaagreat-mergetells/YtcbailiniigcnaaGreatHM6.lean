/- container/heap over merge's heads: Push, Pop, Fix. -/
import Derived.Test.YtcbailiniigcnaaGreatHM5
namespace Go.Proofs.YtcbailiniigcnaaGreat
open Go.ChangeShapes Go.WideShapes Go.ChangeAt Go.Deep Go.RowKit Go.Lib

theorem getD_left (K : List Hd) (y : Hd) {k : Nat} (hk : k < K.length) : (K ++ [y]).getD k Hd.zero = K.getD k Hd.zero := by
  rw [List.getD_eq_getElem?_getD, List.getD_eq_getElem?_getD, List.getElem?_append_left hk]
theorem up_start {H : List Hd} (x : Hd) (h : HeapH H H.length) : HeapUp (H ++ [x]) (H ++ [x]).length H.length := by
  rw [List.length_append]
  constructor
  · intro a c hc hk hcn
    have hc2 : c < H.length := by simp at hcn; omega
    have ha : a < H.length := by unfold Kid at hk; omega
    rw [getD_left _ _ ha, getD_left _ _ hc2]
    exact h a c hk hc2
  · intro a c _ hk hcn
    simp at hcn
    unfold Kid at hk
    omega
theorem turn_next {p : Nat} {v v' : Value} {a b c : World} (h : Turn (hblk p v) a b) (k : Turn (hblk p v') b c) (ho : ObN a v v') : Turn (hblk p v) a c :=
  h.trans k fun x hx => by
    rcases mem_hblk.1 hx with rfl | hx
    · exact .inl (mem_hblk.2 (.inl rfl))
    · rcases ho with e | ⟨b', e, hge⟩
      · exact .inl (mem_hblk.2 (.inr (by rw [← e]; exact hx)))
      · rw [e] at hx
        cases hx
        exact .inr hge
theorem ObN.same {a : World} {v v' v'' : Value} (h : ObN a v v') (e : ob v'' = ob v') : ObN a v v'' := by
  rcases h with h | ⟨x, h1, h2⟩
  · exact .inl (e.trans h)
  · exact .inr ⟨x, e.trans h1, h2⟩
set_option maxHeartbeats 4000000 in
set_option maxRecDepth 100000 in
theorem gpush_any (B p : Nat) (v : Value) (H : List Hd) (x : Hd) (w : World) (h : HpI B w p v H) (hh : HeapH H H.length) (hx : HdAt B w x) (hN : H.length ≤ 999999) :
    Calls Tryz.prog 115 #[.iface 100 (.pointer (some ⟨p, 0, none⟩)), .iface 170 x.val] w fun e w' => e = .returned (.tuple #[]) ∧ ∃ v' H', HpI B w' p v' H' ∧ H'.Perm (H ++ [x]) ∧ HeapH H' H'.length ∧ Turn (hblk p v) w w' ∧ ObN w v v' := by
  have C1 := Lib.hid (hpush_any B p v H x w h hx (by omega))
  have C2 := Lib.hid (fun (v' : Value) (W : World) (h' : HpI B W p v' (H ++ [x])) => up_any B p H.length v' (H ++ [x]) W h' (by simp) (up_start x hh) (by rw [List.length_append]; simp; omega))
  have M1 := fun n' W => mPush n' ⟨p, 0, none⟩ W
  obtain ⟨n, hn⟩ : ∃ n, H.length = n := ⟨_, rfl⟩
  obtain ⟨n1, hn1⟩ : ∃ n1, n1 = n + 1 := ⟨_, rfl⟩
  have s1 : (n1 : Int) - 1 = (n : Int) := by omega
  have s2 : IntKind.i64.wrap (n : Int) = (n : Int) := by rw [IntKind.wrap_i64]; omega
  rw [hn] at C2
  have HN := Lib.hid (show (H ++ [x]).length = n1 by rw [List.length_append, hn, hn1]; rfl)
  generalize x.val = xv at *
  clear h hh hx hN hn hn1
  go_enter Tryz.func115, Tryz.ntmps115
  go_wp2_with (first
    | (go_at_call 141; (with_reducible refine C1.out.mono ?_); rintro e w1 ⟨rfl, v1, h1, ht1, ho1⟩; obtain ⟨g, c, hv, -, -, -, -⟩ := h1.open (by simp); rw [HN.out] at hv; have hc1 := h1.at_.cell; have hc2 := hc1; rw [hv] at hc2; have M2 := fun n' => mLen n' p (some ⟨g, 0, none⟩) n1 c w1 hc2; have C3 := Lib.hid (C2.out v1 w1 h1); have CLN := Lib.hid (hlen_any (some ⟨g, 0, none⟩) n1 c w1); have HV := Lib.hid hv; clear hv hc1 hc2)
    | (go_at_call 86; (with_reducible refine CLN.out.mono ?_); rintro e w2 ⟨rfl, rfl⟩)
    | (go_at_call 121; (with_reducible refine C3.out.mono ?_); rintro e w3 ⟨rfl, H', h3, hp3, hh3, ht3⟩)
    | fail)
  all_goals first | go_end0 | refine bodyPost_ret (results_none rfl _ _ _) rfl ?_
  exact ⟨rfl, v1, H', h3, hp3, hh3, turn_next ht1 ht3 ho1, ho1⟩
theorem down_start {h0 : Hd} {T : List Hd} (h : HeapH (h0 :: T) (T.length + 1)) : HeapDn (swH (h0 :: T) 0 T.length) T.length 0 := by
  have hg := fun k => swH_get (h0 :: T) 0 T.length k (by simp) (by simp)
  constructor
  · intro a c ha hk hcn
    rw [hg, hg, if_neg (by unfold Kid at hk; omega), if_neg ha, if_neg (by omega), if_neg (by unfold Kid at hk; omega)]
    exact h a c hk (by omega)
  · intro a c hk
    unfold Kid at hk
    omega
theorem last_of {H : List Hd} {m : Nat} (hl : H.length = m + 1) : H = H.take m ++ [H.getD m Hd.zero] := by
  have hm : m < H.length := by omega
  rw [List.getD_eq_getElem?_getD, List.getElem?_eq_getElem hm]
  have := List.take_append_drop m H
  rw [List.drop_eq_getElem_cons hm, List.drop_eq_nil_of_le (by omega)] at this
  exact this.symm
theorem heap_take {H : List Hd} {m : Nat} (hl : H.length = m + 1) (h : HeapH H m) : HeapH (H.take m) (H.take m).length := by
  have hk : (H.take m).length = m := by rw [List.length_take]; omega
  rw [hk]
  intro a c hx hc
  have hgt : ∀ k, k < m → (H.take m).getD k Hd.zero = H.getD k Hd.zero := fun k hk => by
    rw [List.getD_eq_getElem?_getD, List.getD_eq_getElem?_getD, List.getElem?_take, if_pos hk]
  rw [hgt a (by unfold Kid at hx; omega), hgt c hc]
  exact h a c hx hc
set_option maxHeartbeats 4000000 in
set_option maxRecDepth 100000 in
theorem gpop_any (B p : Nat) (v : Value) (h0 : Hd) (T : List Hd) (w : World) (h : HpI B w p v (h0 :: T)) (hh : HeapH (h0 :: T) (h0 :: T).length) (hN : T.length ≤ 999999) :
    Calls Tryz.prog 116 #[.iface 100 (.pointer (some ⟨p, 0, none⟩))] w fun e w' => e = .returned (.iface 170 h0.val) ∧ ∃ v' K, HpI B w' p v' K ∧ K.Perm T ∧ HeapH K K.length ∧ Turn (hblk p v) w w' ∧ ob v' = ob v := by
  obtain ⟨n, hn⟩ : ∃ n, (h0 :: T).length = n := ⟨_, rfl⟩
  obtain ⟨m, hm⟩ : ∃ m, T.length = m := ⟨_, rfl⟩
  have hnm : n = m + 1 := by rw [← hn, ← hm]; rfl
  have s1 : (n : Int) - 1 = (m : Int) := by omega
  have s2 : IntKind.i64.wrap (m : Int) = (m : Int) := by rw [IntKind.wrap_i64]; omega
  obtain ⟨g, c, hv, -, -, -, -⟩ := h.open (by simp)
  rw [hn] at hv
  have hc1 := h.at_.cell
  rw [hv] at hc1
  have M1 := fun n' => mLen n' p (some ⟨g, 0, none⟩) n c w hc1
  have M2 := fun n' => mSwap n' p (some ⟨g, 0, none⟩) n c w hc1
  have M3 := fun n' W => mPop n' ⟨p, 0, none⟩ W
  have CLN := Lib.hid (hlen_any (some ⟨g, 0, none⟩) n c w)
  have C1 := Lib.hid (hswap_at h hv hn 0 m (by omega) (by omega))
  have hdn := down_start (h0 := h0) (T := T) (by rw [← hm] at hnm; rw [← hnm, ← hn]; exact hh)
  rw [hm] at hdn
  have hsl : (swH (h0 :: T) 0 m).length = m + 1 := by rw [swH_length, hn, hnm]
  have C2 := Lib.hid (fun (W : World) (h' : HpI B W p v (swH (h0 :: T) 0 m)) => down_any B p 0 m v (swH (h0 :: T) 0 m) W h' (by omega) (by omega) hdn (by omega) (by omega))
  have HPE := Lib.hid (swH_perm (h0 :: T) 0 m (by simp) (by omega))
  have HLA := Lib.hid (show (swH (h0 :: T) 0 m).getD m Hd.zero = h0 from by rw [swH_get _ _ _ _ (by simp) (by omega), if_pos rfl]; rfl)
  have HSL := Lib.hid hsl
  have HM := Lib.hid (show m ≤ 1000000 by omega)
  have HV := Lib.hid hv
  clear h hh hN hn hm hnm hv hdn hsl hc1
  go_enter Tryz.func116, Tryz.ntmps116
  go_wp2_with (first
    | (go_at_call 86; (with_reducible refine CLN.out.mono ?_); rintro e w2 ⟨rfl, rfl⟩)
    | (go_at_call 142; refine C1.out.mono ?_; rintro e w1 ⟨rfl, h1, ht1⟩; have C3 := Lib.hid (C2.out w1 h1))
    | (go_at_call 122; refine C3.out.mono ?_; rintro e w3 ⟨hb3, H3, h3, hp3, hh3, hl3, ht3⟩; obtain ⟨b3, rfl⟩ := hb3; have hlen3 := hp3.length_eq.trans HSL.out; have h3' := h3; rw [last_of hlen3] at h3'; have C4 := Lib.hid (hpop_any B p v (H3.take m) (H3.getD m Hd.zero) w3 h3' (by rw [List.length_take]; have := HM.out; omega)); have HL := Lib.hid (show H3.length = m + 1 ∧ H3.getD m Hd.zero = h0 from ⟨hlen3, (hl3 m (Nat.le_refl _)).trans HLA.out⟩); rw [HL.out.2] at C4; clear hlen3 h3' hl3)
    | (go_at_call 140; (with_reducible refine C4.out.mono ?_); rintro e w4 ⟨rfl, v4, h4, ht4, ho4⟩)
    | fail)
  go_ret
  refine ⟨rfl, v4, _, h4, ?_, heap_take HL.out.1 hh3, (ht1.trans ht3 (fun x hx => .inl hx)).trans ht4 (fun x hx => .inl hx), ho4⟩
  have hq := hp3.trans HPE.out
  rw [last_of HL.out.1, HL.out.2] at hq
  exact (List.perm_append_comm.trans hq).cons_inv
set_option maxHeartbeats 4000000 in
set_option maxRecDepth 100000 in
theorem gfix_any (B p : Nat) (v : Value) (H : List Hd) (w : World) (h : HpI B w p v H) (hp : 0 < H.length) (hd : HeapDn H H.length 0) (hN : H.length ≤ 999999) :
    Calls Tryz.prog 117 #[.iface 100 (.pointer (some ⟨p, 0, none⟩)), .int .i64 0] w fun e w' => e = .returned (.tuple #[]) ∧ ∃ K, HpI B w' p v K ∧ K.Perm H ∧ HeapH K K.length ∧ Turn (hblk p v) w w' := by
  obtain ⟨n, hn⟩ : ∃ n, H.length = n := ⟨_, rfl⟩
  obtain ⟨g, c, hv, -, -, -, -⟩ := h.open hp
  rw [hn] at hv
  have hc1 := h.at_.cell
  rw [hv] at hc1
  have M1 := fun n' => mLen n' p (some ⟨g, 0, none⟩) n c w hc1
  have CLN := Lib.hid (hlen_any (some ⟨g, 0, none⟩) n c w)
  rw [hn] at hd
  have C2 := Lib.hid (down_any B p 0 n v H w h hp (by omega) hd (by omega) (by omega))
  have C3 := Lib.hid (fun (K : List Hd) (W : World) (h' : HpI B W p v K) (hpe : K.Perm H) (hh : HeapH K n) => up_any B p 0 v K W h' (by rw [hpe.length_eq]; exact hp) ⟨fun a b _ hk hb => hh a b hk (by rw [hpe.length_eq, hn] at hb; exact hb), fun a b hk => by unfold Kid at hk; omega⟩ (by rw [hpe.length_eq]; omega))
  have HL := Lib.hid (show ∀ K : List Hd, K.Perm H → K.length = n from fun K hk => hk.length_eq.trans hn)
  have HV := Lib.hid hv
  clear h hd hN hn hv hc1 hp
  go_enter Tryz.func117, Tryz.ntmps117
  go_wp2_with (first
    | (go_at_call 86; (with_reducible refine CLN.out.mono ?_); rintro e w2 ⟨rfl, rfl⟩)
    | fail)
  go_at_call 122
  refine C2.out.mono ?_
  rintro e w3 ⟨hb3, K, h3, hp3, hh3, hl3, ht3⟩
  obtain ⟨b3, rfl⟩ := hb3
  have C4 := Lib.hid (C3.out K w3 h3 hp3 hh3)
  cases b3 with
  | true =>
    go_wp2_with fail
    first | go_end0 | refine bodyPost_ret (results_none rfl _ _ _) rfl ?_
    exact ⟨rfl, K, h3, hp3, by rw [HL.out K hp3]; exact hh3, ht3⟩
  | false =>
    go_wp2_with (first | (go_at_call 121; refine C4.out.mono ?_; rintro e w4 ⟨rfl, K4, h4, hp4, hh4, ht4⟩) | fail)
    first | go_end0 | refine bodyPost_ret (results_none rfl _ _ _) rfl ?_
    exact ⟨rfl, K4, h4, hp4.trans hp3, hh4, ht3.trans ht4 (fun x hx => .inl hx)⟩
end Go.Proofs.YtcbailiniigcnaaGreat
