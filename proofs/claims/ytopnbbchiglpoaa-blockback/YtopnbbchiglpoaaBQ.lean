/- What the program's block.Put, Get, Seek, Shared answer. -/
import Derived.Test.YtopnbbchiglpoaaZY
namespace Go.Proofs.Ytopnbbchiglpoaa
open Go.RowKit

/-- What Seek answers. -/
def SeekB (b key : ByteArray) (w : World) (x : Ending) (w' : World) : Prop :=
  ∃ v, x = .returned (.tuple #[v, .int .i64 (getE b.data.toList).1]) ∧ Row w' 34 4 v (rangeE key ⟨#[]⟩ (getE b.data.toList).2).length (cellsE (rangeE key ⟨#[]⟩ (getE b.data.toList).2)) ∧ (rangeE key ⟨#[]⟩ (getE b.data.toList).2 = [] → v = .slice none 0 0 ∨ ob v ≠ none) ∧ (∀ k, ob v = some k → w.heap.size ≤ k) ∧ Below w.heap.size w w'
theorem getE_few {b : List UInt8} {l : List Ent} {e : Int} (h : getE b = (e, l)) : e ≠ 0 → l = [] := by
  intro he
  unfold getE at h
  split at h
  · exact (congrArg (·.2) h).symm
  · split at h
    · exact (congrArg (·.2) h).symm
    · split at h
      · exact absurd (congrArg (·.1) h).symm he
      · exact (congrArg (·.2) h).symm
/-- What is told are few, and their keys short. -/
theorem getE_small (b : List UInt8) : (getE b).2.length ≤ b.length ∧ ∀ x ∈ (getE b).2, x.k.size ≤ 300 := by
  rcases hg : getE b with ⟨e, l⟩
  by_cases he : e = 0
  · subst he
    obtain ⟨ho, hb⟩ := getE_ok hg
    constructor
    · show l.length ≤ b.length
      have h1 := bodyP_few l l.length
      have h2 : (bodyB l l.length).length ≤ (blkB l).length := by unfold blkB sealF; simp only [List.length_append]; omega
      rw [hb] at h2
      omega
    · intro x hx
      obtain ⟨i, hi, rfl⟩ := List.getElem_of_mem hx
      have := (ordB_at ho hi).1
      rw [entAt_get hi] at this
      exact (valid_parts this).1
  · have := getE_few hg he
    subst this
    exact ⟨Nat.zero_le _, fun x hx => by cases hx⟩
theorem blkB_size (es : List Ent) (hl : es.length ≤ 150) (hsz : sizeEs es ≤ 20000) (hok : ∀ x ∈ es, x.Ok) : (blkB es).length ≤ 60000 := by
  have h1 := bodyB_len es (by omega) (fun i hi => by
    rw [entAt_get hi]
    obtain ⟨-, h2, h3, h4, h5, -⟩ := hok _ (List.getElem_mem hi)
    omega) es.length (Nat.le_refl _)
  have h2 := sizeEs_le es es.length
  have h3 := tailB_cnt es es.length
  unfold blkB sealF
  simp only [List.length_append, be_length]
  omega
theorem putP_any {w : World} (a : Option Addr) (len cap : Nat) (es : List Ent) (hE : EntsAt w.heap.size w a len es) (hlm : len ≤ 150) (hcap : len ≤ cap) (hok : ∀ x ∈ es, x.Ok) (hsz : sizeEs es ≤ 20000) :
    Calls Try.prog 7 #[.slice a len cap] w fun e w' => e = .returned (putBV es) ∧ Below w.heap.size w w' := by
  have hll : es.length = len := hE.1
  have hb := blkB_size es (by omega) hsz hok
  rw [blkB_lay] at hb
  have h2 : (layB es).length ≤ (sealF (layB es)).length := by unfold sealF; rw [List.length_append]; omega
  exact put_walk a len cap es hE (by omega) hcap hok (by omega) (fun W hW ho => blay_any w.heap.size hW.size a len cap es (hE.below hW) (by omega) hok (by omega) ho)
set_option maxHeartbeats 1000000 in
/-- slices.DeleteFunc, of no versions. -/
theorem delFunc_none {w : World} (X : Nat) (key : ByteArray) (hk : w.cell? ⟨X, 0, none⟩ = some (.string key)) :
    Calls Try.prog 19 #[.slice none 0 0, .func (.func 20) #[] #[.pointer (some ⟨X, 0, none⟩)]] w fun e w' => e = .returned (.slice none 0 0) ∧ Below w.heap.size w w' := by
  have CI := Lib.hid (idxFunc_any none 0 0 [] ⟨rfl, .inl rfl⟩ (by omega) X key hk)
  clear hk
  go_enter Try.func19, Try.ntmps19
  go_wp2_with (fail)
  go_at_call 39
  refine CI.out.mono ?_
  rintro _ w1 ⟨r, rfl, hres, b1⟩
  rcases hres.out with ⟨rfl, -⟩ | ⟨k0, hk0, -⟩
  · clear hres
    go_wp2
    go_ret
    exact ⟨rfl, b1⟩
  · omega
set_option maxHeartbeats 4000000 in
set_option maxRecDepth 100000 in
theorem seekP_len (b key : ByteArray) (w : World) (h : b.size ≤ 100000) : Calls Try.prog 9 #[.string b, .string key] w (SeekB b key w) := by
  obtain ⟨W0, hW0⟩ : ∃ W0, w.alloc (.cells #[.string key] 9) = W0 := ⟨_, rfl⟩
  have hb0 : Below w.heap.size w W0 := by rw [← hW0]; exact (Below.refl _ _).alloc (Nat.le_refl _) _
  have hk0 : W0.cell? ⟨w.heap.size, 0, none⟩ = some (.string key) := by rw [← hW0]; exact nce rfl rfl
  have hs0 : w.heap.size < W0.heap.size := World.block_lt_of_cell? W0 _ hk0
  have HC := Lib.hid (getP_len b W0 h)
  have hsm := getE_small b.data.toList
  rw [len_data'] at hsm
  unfold GotB at HC
  unfold SeekB
  rcases hg : getE b.data.toList with ⟨e, l⟩
  rw [hg] at HC hsm
  obtain ⟨X, hX⟩ : ∃ X, w.heap.size = X := ⟨_, rfl⟩
  have HXW := Lib.hid hX
  rw [hX] at hk0 hs0
  have HB0 := Lib.hid hb0
  have HK0 := Lib.hid hk0
  simp only at HC hsm ⊢
  have HG := Lib.hid hg
  clear hX hb0 hk0 hg
  by_cases he : e = 0
  · subst he
    have hf := hsm.1
    go_enter Try.func9, Try.ntmps9
    go_upto_region 1 with fail
    try rw [hW0]
    try rw [HXW.out]
    clear hW0
    go_wp2_with (fail)
    go_at_call 8
    refine HC.out.mono ?_
    rintro _ w1 ⟨v, rfl, h1, h2, h3, h4⟩
    have HB1 := Lib.hid (HB0.out.trans (h4.mono HB0.out.size))
    have hk1 := kkB h4 HK0.out
    cases l with
    | nil =>
      obtain rfl := h2 rfl
      have CD := Lib.hid (delFunc_none X key hk1)
      clear h1 h2 h3 h4 hk1 HC HK0 HB0
      go_wp2_with (go_at_call 19; (with_reducible refine CD.out.mono ?_); rintro _ w2 ⟨rfl, b2⟩)
      go_ret2
      exact ⟨_, rfl, row_nil _ _ _, fun _ => .inl rfl, fun k hk => by simp [ob] at hk, HB1.out.trans (b2.mono HB1.out.size)⟩
    | cons x l =>
      obtain ⟨g, cap, rfl⟩ : ∃ g cap, v = .slice (some ⟨g, 0, none⟩) (x :: l).length (cap + 1) := by
        rcases h1.2 with ⟨h0, -⟩ | ⟨g, cap, cur, e, -⟩
        · simp at h0
        · exact ⟨g, cap, e⟩
      have hgw := h3 g rfl
      generalize hes : x :: l = es at *
      have HES := Lib.hid hes
      clear hes
      have CD := Lib.hid (delFunc_some g cap es h1 (by omega) X key hk1 (by omega))
      have hgX : X ≤ g := by omega
      clear h1 h2 h3 h4 hk1 HC HK0 HB0
      go_wp2_with (go_at_call 19; (with_reducible refine CD.out.mono ?_); rintro _ w2 ⟨v2, rfl, r2, o2, g2⟩)
      go_ret2
      have hwg : w.heap.size ≤ g := by rw [HXW.out]; exact hgX
      refine ⟨v2, rfl, ?_, fun _ => .inr (by rw [o2]; simp), fun k hk => ?_, below_row HB1.out (Nat.le_refl _) g2 (fun k hk => by cases hk; exact hwg)⟩
      · rw [← keepP_range, HES.out]; exact r2
      · rw [o2] at hk; cases hk; exact hwg
  · have hl : l = [] := getE_few HG.out he
    subst hl
    have hd : (e != 0) = true := by simpa using he
    clear he HG
    go_enter Try.func9, Try.ntmps9
    go_upto_region 1 with fail
    try rw [hW0]
    try rw [HXW.out]
    clear hW0
    go_wp2_with (fail)
    go_at_call 8
    refine HC.out.mono ?_
    rintro _ w1 ⟨v, rfl, h1, h2, h3, h4⟩
    have HB1 := Lib.hid (HB0.out.trans (h4.mono HB0.out.size))
    obtain rfl := h2 (by first | rfl | trivial)
    clear h1 h2 h3 h4 HC HK0 HB0
    go_wp2
    go_ret2
    exact ⟨_, rfl, row_nil _ _ _, fun _ => .inl rfl, fun k hk => by simp [ob] at hk, HB1.out⟩
theorem getP_any (b : ByteArray) (w : World) (h : b.size ≤ 6004) : Calls Try.prog 8 #[.string b] w (GotB b.data.toList w) := getP_len b w (by omega)
theorem seekP_any (b key : ByteArray) (w : World) (h : b.size ≤ 6004) : Calls Try.prog 9 #[.string b, .string key] w (SeekB b key w) := seekP_len b key w (by omega)
theorem getP_laid (es : List Ent) (w : World) (hl : es.length ≤ 150) (hsz : sizeEs es ≤ 20000) (hok : ∀ x ∈ es, x.Ok) (b : ByteArray) (hb : b.data.toList = blkB es) : Calls Try.prog 8 #[.string b] w (GotB b.data.toList w) := getP_len b w (by rw [← len_data', hb]; have := blkB_size es hl hsz hok; omega)
theorem seekP_laid (es : List Ent) (key : ByteArray) (w : World) (hl : es.length ≤ 150) (hsz : sizeEs es ≤ 20000) (hok : ∀ x ∈ es, x.Ok) (b : ByteArray) (hb : b.data.toList = blkB es) : Calls Try.prog 9 #[.string b, .string key] w (SeekB b key w) :=
  seekP_len b key w (by rw [← len_data', hb]; have := blkB_size es hl hsz hok; omega)
theorem sharedP_any (a b : ByteArray) (w : World) (ha : a.size ≤ 100000) (hb : b.size ≤ 100000) :
    Calls Try.prog 12 #[.string a, .string b] w fun e w' => e = .returned (.int .i64 ((shr a.data.toList b.data.toList : Nat) : Int)) ∧ Below w.heap.size w w' :=
  (shared_any a b w (by omega) (by omega)).mono fun _ _ ⟨h1, n, h2⟩ => ⟨h1, by rw [h2]; exact belowN (Below.refl _ _) n⟩
open Go.ChangeShapes Go.WideShapes Go.ChangeAt Go.Deep in
theorem rowE_nil {H : Type} {enc : TypeId × Value → H} {w : World} {base fuel : Nat} {held : Bool} {a : Option Addr} {len cap : Nat} {x : DataW H × List MemPlace}
    (h : DataW.trod enc Try.prog w base (fun _ => true) held fuel 22 (Value.slice a len cap).cells.toList = some x) : a = none → cap = 0 := by
  rcases open_slice Try.underlying22 h with ⟨hcs, _⟩ | ⟨y, l, c, m, n, D, Pl, hcs, _⟩
  · simp [Value.cells] at hcs
    exact fun _ => hcs.2.2
  · simp [Value.cells] at hcs
    intro e
    rw [hcs.1] at e
    cases e
open Go.ChangeShapes Go.WideShapes Go.ChangeAt Go.Deep in
theorem rowE_cap {H : Type} {enc : TypeId × Value → H} {w : World} {base fuel : Nat} {held : Bool} {a : Option Addr} {len cap : Nat} {x : DataW H × List MemPlace}
    (h : DataW.trod enc Try.prog w base (fun _ => true) held fuel 22 (Value.slice a len cap).cells.toList = some x) : len ≤ cap ∧ cap ≤ maxLen := by
  rcases open_slice Try.underlying22 h with ⟨hcs, _⟩ | ⟨y, l, c, m, n, D, Pl, hcs, _, hl, hm, hmm, _, hx⟩
  · simp [Value.cells] at hcs
    obtain ⟨rfl, rfl, rfl⟩ := hcs
    exact ⟨Nat.le_refl _, Nat.zero_le _⟩
  · simp [Value.cells] at hcs
    obtain ⟨rfl, rfl, rfl⟩ := hcs
    exact ⟨hl, hm⟩
end Go.Proofs.Ytopnbbchiglpoaa
