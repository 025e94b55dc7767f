/- Plain: what the program's reading of a block tells, held against what was laid. -/
import Derived.Test.YtmnboiikopkaoaaGreatBC
namespace Go.Proofs.YtmnboiikopkaoaaGreat
open Go.RowKit

/-- One version read behind the key ahead, as the program reads it. -/
def stP (ahead l : List UInt8) : Ent × List UInt8 × Int :=
  let a := rdC (ahead.length : Int) l 0
  let t := rdT (300 - (a.1 : Int)) a.2.1 a.2.2
  let s := rdV t.2.1 t.2.2
  let n := rdV s.2.1 s.2.2
  let v := rdT 60000 n.2.1 n.2.2
  (⟨⟨(ahead.take a.1 ++ t.1).toArray⟩, (s.1 : Int), IntKind.i64.wrap (n.1 : Int), ⟨v.1.toArray⟩⟩, v.2.1, v.2.2)
theorem wrap_i64_in (x : Int) : -9223372036854775808 ≤ IntKind.i64.wrap x ∧ IntKind.i64.wrap x ≤ 9223372036854775807 := by
  rw [IntKind.wrap_i64]
  omega
/-- What one reading tells is short, and leaves less. -/
theorem stP_any (ahead l : List UInt8) (ha : ahead.length ≤ 300) : (stP ahead l).1.Ok ∧ (stP ahead l).1.k.size ≤ 300 ∧ ((stP ahead l).2.2 = 0 → (stP ahead l).2.1.length + (stP ahead l).1.v.size + 5 ≤ l.length) := by
  have hC := rdC_le (most := (ahead.length : Int)) l 0 (by omega)
  unfold stP
  simp only
  generalize hc : rdC (ahead.length : Int) l 0 = c at *
  have hT := rdT_le (300 - (c.1 : Int)) c.2.1 c.2.2 (by omega)
  generalize ht : rdT (300 - (c.1 : Int)) c.2.1 c.2.2 = t at *
  have hS := rdV_bound t.2.1 t.2.2
  generalize hs : rdV t.2.1 t.2.2 = s at *
  generalize hn : rdV s.2.1 s.2.2 = n at *
  have hV := rdT_le 60000 n.2.1 n.2.2 (by decide)
  generalize hv : rdT 60000 n.2.1 n.2.2 = v at *
  have hk : (⟨(ahead.take c.1 ++ t.1).toArray⟩ : ByteArray).size ≤ 300 := by
    rw [str_size, List.length_append, List.length_take]
    omega
  have hvs : (⟨v.1.toArray⟩ : ByteArray).size = v.1.length := str_size _
  have hw := wrap_i64_in (n.1 : Int)
  refine ⟨⟨?_, ?_, ?_, hw.1, hw.2, ?_⟩, hk, fun h0 => ?_⟩
  · show (⟨(ahead.take c.1 ++ t.1).toArray⟩ : ByteArray).size ≤ _
    unfold maxLen; omega
  · show (0 : Int) ≤ (s.1 : Int); omega
  · show (s.1 : Int) ≤ _; omega
  · show (⟨v.1.toArray⟩ : ByteArray).size ≤ _
    rw [hvs]; unfold maxLen; omega
  · have k5 : n.2.2 = 0 := rdT_sticks (most := 60000) (l := n.2.1) (by rw [hv]; exact h0)
    have k4 : s.2.2 = 0 := rdV_sticks (l := s.2.1) (by rw [hn]; exact k5)
    have k3 : t.2.2 = 0 := rdV_sticks (l := t.2.1) (by rw [hs]; exact k4)
    have k2 : c.2.2 = 0 := rdT_sticks (most := 300 - (c.1 : Int)) (l := c.2.1) (by rw [ht]; exact k3)
    have j1 : rdC (ahead.length : Int) l 0 = (c.1, c.2.1, 0) := by rw [hc, ← k2]
    have j2 : rdT (300 - (c.1 : Int)) c.2.1 0 = (t.1, t.2.1, 0) := by rw [k2] at ht; rw [ht, ← k3]
    have j3 : rdV t.2.1 0 = (s.1, s.2.1, 0) := by rw [k3] at hs; rw [hs, ← k4]
    have j4 : rdV s.2.1 0 = (n.1, n.2.1, 0) := by rw [k4] at hn; rw [hn, ← k5]
    have j5 : rdT 60000 n.2.1 0 = (v.1, v.2.1, 0) := by rw [k5] at hv; rw [hv, ← h0]
    have i1 := (rdC_eats j1).1
    have i2 := (rdT_eats j2).1
    have i3 := rdV_eats j3
    have i4 := rdV_eats j4
    have i5 := (rdT_eats j5).1
    show v.2.1.length + (⟨v.1.toArray⟩ : ByteArray).size + 5 ≤ l.length
    rw [hvs]
    omega
/-- The key that the next one may begin with. -/
def aheadP (es : List Ent) : List UInt8 := if es.length % 4 = 0 then [] else (entAt es (es.length - 1)).k.data.toList
/-- May a version stand behind others? -/
def folB (es : List Ent) (e : Ent) : Bool := vldE e && (decide (es.length = 0) || decide (cmpN (entAt es (es.length - 1)) e < 0))
theorem entAt_app {es t : List Ent} {i : Nat} (h : i < es.length) : entAt (es ++ t) i = entAt es i := by unfold entAt; rw [List.getElem?_append_left h]
theorem entAt_end (es : List Ent) (e : Ent) : entAt (es ++ [e]) es.length = e := by unfold entAt; simp
theorem ordB_app (es t : List Ent) : ∀ k, k ≤ es.length → ordB (es ++ t) k = ordB es k
  | 0, _ => rfl
  | k + 1, h => by
    have ih := ordB_app es t k (by omega)
    show (ordB (es ++ t) k && _) = (ordB es k && _)
    rw [ih, entAt_app (show k < es.length by omega)]
    by_cases h0 : k = 0
    · subst h0; simp
    · rw [entAt_app (show k - 1 < es.length by omega)]
theorem ordB_snoc (es : List Ent) (e : Ent) : ordB (es ++ [e]) (es ++ [e]).length = (ordB es es.length && folB es e) := by
  rw [List.length_append, List.length_singleton]
  show (ordB (es ++ [e]) es.length && _) = _
  rw [ordB_app es [e] es.length (Nat.le_refl _), entAt_end]
  unfold folB
  by_cases h0 : es.length = 0
  · simp [h0]
  · rw [entAt_app (show es.length - 1 < es.length by omega)]
/-- What five readings tell of a version's bytes, at the bounds that the program reads them at. -/
theorem entB_decG (sh : Nat) (e : Ent) (t : List UInt8) (most mt : Int) (h1 : (sh : Int) ≤ most) (h2 : sh ≤ e.k.size) (hs3 : e.k.size ≤ 300) (h3 : (e.k.size : Int) - (sh : Int) ≤ mt) (h4 : e.v.size ≤ 60000) (h5 : e.s.toNat < 18446744073709551616) (h6 : e.n.toNat < 18446744073709551616) :
    ∃ y1 y2 y3 y4, rdC most (entB sh e ++ t) 0 = (sh, y1, 0) ∧ rdT mt y1 0 = (e.k.data.toList.drop sh, y2, 0) ∧ rdV y2 0 = (e.s.toNat, y3, 0) ∧ rdV y3 0 = (e.n.toNat, y4, 0) ∧ rdT 60000 y4 0 = (e.v.data.toList, t, 0) := by
  have k1 : e.k.size - sh = (e.k.data.toList.drop sh).length := by rw [List.length_drop, len_data']
  have k2 : e.v.size = e.v.data.toList.length := by rw [len_data']
  have hv : e.v.data.toList.length ≤ 60000 := by rw [← k2]; exact h4
  refine ⟨Lib.uvarint (e.k.data.toList.drop sh).length ++ (e.k.data.toList.drop sh ++ (Lib.uvarint e.s.toNat ++ (Lib.uvarint e.n.toNat ++ (Lib.uvarint e.v.data.toList.length ++ (e.v.data.toList ++ t))))), Lib.uvarint e.s.toNat ++ (Lib.uvarint e.n.toNat ++ (Lib.uvarint e.v.data.toList.length ++ (e.v.data.toList ++ t))), Lib.uvarint e.n.toNat ++ (Lib.uvarint e.v.data.toList.length ++ (e.v.data.toList ++ t)), Lib.uvarint e.v.data.toList.length ++ (e.v.data.toList ++ t), ?_, rdT_ok (decT_laid mt _ _ (by omega) (by omega)), rdV_ok (decV_laid _ _ h5), rdV_ok (decV_laid _ _ h6), rdT_ok (decT_laid 60000 _ _ (by omega) (by omega))⟩
  have e1 : entB sh e ++ t = Lib.uvarint sh ++ (Lib.uvarint (e.k.data.toList.drop sh).length ++ (e.k.data.toList.drop sh ++ (Lib.uvarint e.s.toNat ++ (Lib.uvarint e.n.toNat ++ (Lib.uvarint e.v.data.toList.length ++ (e.v.data.toList ++ t)))))) := by
    unfold entB
    rw [k1, k2]
    simp [vars]
  rw [e1]
  exact rdC_ok (decC_laid most sh _ (by omega) h1)
theorem aheadP_take (L : List Ent) (k : Nat) (hk : k < L.length) : (aheadP (L.take k)).take (shN L k) ++ (entAt L k).k.data.toList.drop (shN L k) = (entAt L k).k.data.toList ∧ shN L k ≤ (aheadP (L.take k)).length := by
  have hl : (L.take k).length = k := by rw [List.length_take]; omega
  unfold aheadP shN
  rw [hl]
  by_cases h4 : k % 4 = 0
  · rw [if_pos h4, if_pos h4]
    simp
  · rw [if_neg h4, if_neg h4]
    have : entAt (L.take k) (k - 1) = entAt L (k - 1) := by
      unfold entAt
      rw [List.getElem?_take, if_pos (by omega)]
    rw [this]
    refine ⟨?_, shr_le1 _ _⟩
    rw [shr_take, List.take_append_drop]
theorem stP_laid (L : List Ent) (k : Nat) (hk : k < L.length) (hv : vldE (entAt L k) = true) (hs : 0 ≤ (entAt L k).s ∧ (entAt L k).s ≤ 18446744073709551615) :
    stP (aheadP (L.take k)) (restB L k) = (entAt L k, restB L (k + 1), 0) := by
  obtain ⟨h1, h2, h3⟩ := valid_parts hv
  obtain ⟨e1, e2⟩ := aheadP_take L k hk
  have e3 := (shN_last L k).2.2
  obtain ⟨y1, y2, y3, y4, d1, d2, d3, d4, d5⟩ := entB_decG (shN L k) (entAt L k) (restB L (k + 1)) ((aheadP (L.take k)).length : Int) (300 - (shN L k : Int)) (by omega) e3 h1 (by omega) h2 (by omega) (by omega)
  unfold stP
  rw [restB_step L k hk]
  simp only [d1, d2, d3, d4, d5]
  rw [e1]
  generalize entAt L k = x at *
  obtain ⟨xk, xs, xn, xv⟩ := x
  have hn : IntKind.i64.wrap ((xn.toNat : Nat) : Int) = xn := by
    have h3 : xn = 1 ∨ xn = 2 := h3
    rw [IntKind.wrap_i64]
    omega
  have hs2 : ((xs.toNat : Nat) : Int) = xs := by have : 0 ≤ xs := hs.1; omega
  simp only
  rw [hn, hs2]
/-- Versions whose bytes these are. -/
def LaidP (L : List Ent) (body : List UInt8) : Prop := ordB L L.length = true ∧ (∀ x ∈ L, 0 ≤ x.s ∧ x.s ≤ 18446744073709551615) ∧ bodyB L L.length = body
/-- What stands as the program reads a version more. -/
structure GoP (body : List UInt8) (l : List UInt8) (es : List Ent) : Prop where
  ord : ordB es es.length = true
  cnt : es.length * 5 + l.length ≤ body.length
  sum : sizeEs es + l.length ≤ 300 * es.length + body.length
  ok : ∀ x ∈ es, x.Ok
  all : ∀ L, LaidP L body → es = L.take es.length ∧ l = restB L es.length ∧ es.length ≤ L.length
theorem GoP.start (body : List UInt8) : GoP body body [] :=
  ⟨rfl, by simp, by simp [sizeEs], by simp, fun L hL => ⟨by simp, by simp only [List.length_nil]; rw [restB_zero, hL.2.2], Nat.zero_le _⟩⟩
theorem GoP.ahead {body l : List UInt8} {es : List Ent} (h : GoP body l es) : (aheadP es).length ≤ 300 := by
  unfold aheadP
  split
  · simp
  · rename_i h4
    have := (ordB_at h.ord (show es.length - 1 < es.length by omega)).1
    rw [len_data']
    exact (valid_parts this).1
theorem GoP.at {body l : List UInt8} {es : List Ent} (h : GoP body l es) (hl : l ≠ []) {L : List Ent} (hL : LaidP L body) : es.length < L.length ∧ stP (aheadP es) l = (entAt L es.length, restB L (es.length + 1), 0) ∧ folB es (entAt L es.length) = true := by
  obtain ⟨e1, e2, e3⟩ := h.all L hL
  have hlt : es.length < L.length := by
    rcases Nat.lt_or_ge es.length L.length with h1 | h1
    · exact h1
    · exfalso
      apply hl
      rw [e2, show es.length = L.length by omega, restB_all]
  have ho := ordB_at hL.1 hlt
  refine ⟨hlt, ?_, ?_⟩
  · have := stP_laid L es.length hlt ho.1 (by rw [entAt_get hlt]; exact hL.2.1 _ (List.getElem_mem _))
    rw [← e1, ← e2] at this
    exact this
  · unfold folB
    rw [ho.1, Bool.true_and, Bool.or_eq_true, decide_eq_true_eq, decide_eq_true_eq]
    by_cases h0 : es.length = 0
    · exact .inl h0
    · right
      have h1 := ho.2 (by omega)
      have : entAt es (es.length - 1) = entAt L (es.length - 1) := by
        conv => lhs; rw [e1]
        unfold entAt
        rw [List.getElem?_take, if_pos (by rw [List.length_take]; omega)]
        congr 2
        rw [List.length_take]
        omega
      rw [this]
      exact h1
theorem sizeEs_add (es : List Ent) (x : Ent) : sizeEs (es ++ [x]) = sizeEs es + sizeE x := by simp [sizeEs]
theorem GoP.step {body l : List UInt8} {es : List Ent} (h : GoP body l es) (hl : l ≠ []) (h2 : (stP (aheadP es) l).2.2 = 0) (hf : folB es (stP (aheadP es) l).1 = true) : GoP body (stP (aheadP es) l).2.1 (es ++ [(stP (aheadP es) l).1]) := by
  have hs := stP_any (aheadP es) l h.ahead
  have hl2 := hs.2.2 h2
  have e1 := h.cnt
  have e2 := h.sum
  refine ⟨?_, ?_, ?_, ?_, fun L hL => ?_⟩
  · rw [ordB_snoc, h.ord, hf]; rfl
  · rw [List.length_append, List.length_singleton]; omega
  · rw [sizeEs_add, List.length_append, List.length_singleton]
    unfold sizeE
    have := hs.2.1
    omega
  · intro x hx
    rcases List.mem_append.1 hx with hx | hx
    · exact h.ok x hx
    · rw [List.mem_singleton.1 hx]; exact hs.1
  · obtain ⟨hlt, hst, -⟩ := h.at hl hL
    rw [hst, List.length_append, List.length_singleton]
    refine ⟨?_, rfl, hlt⟩
    have := (h.all L hL).1
    rw [List.take_succ_eq_append_getElem hlt, ← this, entAt_get hlt]
theorem GoP.no {body l : List UInt8} {es : List Ent} (h : GoP body l es) (hl : l ≠ []) (h1 : (stP (aheadP es) l).2.2 ≠ 0 ∨ folB es (stP (aheadP es) l).1 = false) : ∀ L, ¬ LaidP L body := by
  intro L hL
  obtain ⟨-, hst, hf⟩ := h.at hl hL
  rw [hst] at h1
  rcases h1 with h1 | h1
  · exact h1 rfl
  · rw [hf] at h1; cases h1
theorem uvP_pos (x : Nat) : 0 < (Lib.uvarint x).length := by unfold Lib.uvarint; split <;> simp
theorem GoP.fin {body : List UInt8} {es : List Ent} (h : GoP body [] es) : ∀ L, LaidP L body → L = es := by
  intro L hL
  obtain ⟨e1, e2, e3⟩ := h.all L hL
  rcases Nat.lt_or_ge es.length L.length with hlt | hge
  · exfalso
    rw [restB_step L es.length hlt] at e2
    have := congrArg List.length e2
    unfold entB at this
    have := uvP_pos (shN L es.length)
    simp only [List.length_append, List.length_nil] at *
    omega
  · rw [e1, List.take_of_length_le hge]
/-- The bytes of versions, not sealed yet. -/
def layB (L : List Ent) : List UInt8 := bodyB L L.length ++ tailB L L.length ++ be ((L.length + 3) / 4) 4
theorem blkB_lay (L : List Ent) : blkB L = sealF (layB L) := rfl
theorem sealF_inj {a b : List UInt8} (h : sealF a = sealF b) : a = b := by
  unfold sealF at h
  have hl : a.length = b.length := by
    have := congrArg List.length h
    rw [List.length_append, List.length_append, be_length, be_length] at this
    omega
  exact (List.append_inj h hl).1
theorem bodyP_few (l : List Ent) : ∀ k, k ≤ (bodyB l k).length
  | 0 => Nat.zero_le _
  | k + 1 => by
    have ih := bodyP_few l k
    have h1 : 0 < (entB (shN l k) (entAt l k)).length := by
      unfold entB
      have := uvP_pos (shN l k)
      simp only [List.length_append]
      omega
    show k + 1 ≤ (bodyB l k ++ _).length
    rw [List.length_append]
    omega
theorem decP_ok : ∀ (f : Nat) (last l : List UInt8) (es : List Ent), decEs f last l = some es → ∀ x ∈ es, x.Ok
  | 0, _, _, es, h => by
    obtain rfl : [] = es := Option.some.inj h
    intro x hx
    cases hx
  | f + 1, last, l, es, h => by
    rw [decEs] at h
    split at h
    · obtain rfl : [] = es := Option.some.inj h
      intro x hx
      cases hx
    · split at h
      · cases h
      · split at h
        · cases h
        · obtain ⟨m, hm, rfl⟩ := Option.map_eq_some_iff.1 h
          intro x hx
          rcases List.mem_cons.1 hx with rfl | hx
          · exact (stB_any last l).2.1
          · exact decP_ok f _ _ m hm x hx
theorem getP_oks (b : List UInt8) : ∀ x ∈ (getE b).2, x.Ok := by
  unfold getE
  split
  · intro x hx; cases hx
  · split
    · intro x hx; cases hx
    · rename_i es hes
      split
      · exact decP_ok _ _ _ _ hes
      · intro x hx; cases hx
/-- What the document tells of bytes was laid. -/
theorem getE_laidP {b l0 : List UInt8} {L : List Ent} (hb : b.length ≤ 1000000) (hg : getBody b = (0, l0)) (h : getE b = (0, L)) : LaidP L l0 ∧ blkB L = b := by
  obtain ⟨ho, hbl⟩ := getE_ok h
  have hlen : L.length ≤ 1000000 := by
    have h1 := bodyP_few L L.length
    have h2 : (bodyB L L.length).length ≤ (blkB L).length := by unfold blkB sealF; simp only [List.length_append]; omega
    rw [hbl] at h2
    omega
  have h2 := getBody_laid L hlen
  rw [hbl, hg] at h2
  have hok := getP_oks b
  rw [h] at hok
  exact ⟨⟨ho, fun x hx => ⟨(hok x hx).2.1, (hok x hx).2.2.1⟩, (congrArg (·.2) h2).symm⟩, hbl⟩
/-- Where nothing was laid there is an error. -/
theorem getE_four {b l0 : List UInt8} (hb : b.length ≤ 1000000) (hg : getBody b = (0, l0)) (h : ∀ L, LaidP L l0 → blkB L = b → False) : getE b = (4, []) := by
  cases hd : decEs l0.length [] l0 with
  | none => exact getE_none hg hd
  | some es =>
    have h1 := getE_some hg hd
    by_cases hc : ordB es es.length = true ∧ blkB es = b
    · rw [if_pos hc] at h1
      exact absurd hc.2 (fun e => (h es (getE_laidP hb hg h1).1 e).elim)
    · rw [if_neg hc] at h1
      exact h1
end Go.Proofs.YtmnboiikopkaoaaGreat
