/- ManiSpoilt's plain part, lists of edits that came in, a manifest beside blocks that stay (P13I P13K P13L). -/
import Derived.Test.YtlecffpjcjlabaaGreatIM3
namespace Go.Proofs.YtlecffpjcjlabaaGreat
open Go.RowKit Go.Lib

/-- How long a version is when it is laid whole, though it may not be right. -/
theorem putTs_append (a b : List Tb) : (putTs (a ++ b)).length = (putTs a).length + (putTs b).length := by simp [putTs]
theorem putTs_perm {a b : List Tb} (h : a.Perm b) : (putTs a).length = (putTs b).length := (h.map putT).flatten.length_eq
theorem next_whole_len {v : Vr} {e : Ed} (hv : RightV v) (he : e.Ok) (hl : v.ts.length ≤ 10000) : (wholeB (nextV v e).up).length ≤ 70 + v.ts.length * 660 + e.add.length * 18050 := by
  obtain ⟨h1, h2, h3, h4, h5, h6, h7⟩ := he
  have hp := (ordT_both (leftT v.ts e.drop ++ e.add)).1
  have hb := hv.1
  have hll := leftT_len v.ts e.drop
  have hal : (nextV v e).ts.length ≤ v.ts.length + e.add.length := next_len v e
  have a1 : (putTs (nextV v e).ts).length ≤ v.ts.length * 660 + e.add.length * 18050 := by
    show (putTs (ordT _)).length ≤ _
    rw [putTs_perm hp, putTs_append]
    have b1 := putTs_len3 (leftT v.ts e.drop) (fun t ht => (hv.2.1 t (List.mem_filter.1 ht).1).fits (by omega))
    have b2 := putTs_len e.add h6
    have b3 : (leftT v.ts e.drop).length * 660 ≤ v.ts.length * 660 := Nat.mul_le_mul_right _ hll
    omega
  have a2 := three_vars (max v.log e.log).toNat (max v.next e.next + 1).toNat (max v.seq e.seq) (by omega) (by omega) (by omega)
  have a3 := one_vars (nextV v e).ts.length (by omega)
  have a4 := one_vars 0 (by omega)
  unfold wholeB
  rw [show frames [putE (wholeE (nextV v e).up)] = frm (putE (wholeE (nextV v e).up)) by simp [frames], frm_length]
  have e1 : putE (wholeE (nextV v e).up) = vars [(max v.log e.log).toNat, (max v.next e.next + 1).toNat, max v.seq e.seq] ++ (vars [(nextV v e).ts.length] ++ (putTs (nextV v e).ts ++ (vars [0] ++ putI []))) := rfl
  have e2 : (putI []).length = 0 := rfl
  rw [e1, List.length_append, List.length_append, List.length_append, List.length_append, e2]
  omega
/-- Behind i edits. -/
structure SpoI (i : Nat) (s : St) (m : Mf) (rs : List (List UInt8)) (es : List Ed) : Prop where
  man : ManiC s m rs
  eds : EdsC es rs
  adds : adds es ≤ 40 * i
  num : es.length ≤ 1 + i
  few : m.v.ts.length ≤ 40 * i
  next : m.v.next ≤ 1000000 + (i : Int)
  len : (frames rs).length ≤ 300000
section
variable {i : Nat} {s : St} {m : Mf} {rs : List (List UInt8)} {es : List Ed}
theorem SpoI.more (h : SpoI i s m rs es) : SpoI (i + 1) s m rs es := ⟨h.man, h.eds, by have := h.adds; omega, by have := h.num; omega, by have := h.few; omega, by have := h.next; omega, h.len⟩
theorem spoI_start : ∃ s1, openM (St.new 0) = (s1, 0, ⟨1, vStart⟩) ∧ SpoI 0 s1 ⟨1, vStart⟩ [putE (wholeE vStart)] [wholeE vStart] := by
  obtain ⟨h1, h2⟩ := open_new calm_new (fun n => look_new n)
  have := start_len
  exact ⟨_, Prod.ext rfl h1, h2, EdsC.one vStart_right.1 (Nat.zero_le _), Nat.zero_le _, Nat.le_refl _, Nat.le_refl _, by decide, Nat.le_trans this (by decide)⟩
theorem SpoI.step (h : SpoI i s m rs es) (hi : i < 10) {e : Ed} (h1 : e.add.length ≤ 40) (h2 : e.drop.length ≤ 60) (hx : e.next ≤ 1000000) :
    ∃ s' er m' rs' es', addM s m false e = (s', er, m', false) ∧ SpoI (i + 1) s' m' rs' es' := by
  by_cases hc : canB e = true
  rotate_left
  · exact ⟨_, _, _, _, _, addM_1 (by simpa using hc), h.more⟩
  by_cases ha : appliesB m.v e = true
  rotate_left
  · exact ⟨_, _, _, _, _, addM_2 hc (by simpa using ha), h.more⟩
  have hap := appliesB_iff.1 ha
  have hfit := fits_of h.man.right hc hap (by omega) (by omega)
  have hf := h.few
  have hn := h.next
  have hnl := next_len m.v e
  have hnn : (nextV m.v e).next = max m.v.next e.next := rfl
  obtain ⟨a1, a2, a3⟩ := add_calm h.man hc hap (by omega) (by omega) (by omega) (by omega)
  rcases a3 with ⟨b1, b2, b3⟩ | ⟨b1, b2, b3⟩
  · refine ⟨_, _, _, _, es ++ [e], Prod.ext rfl (Prod.ext a1 (Prod.ext b2 a2)), b3, h.eds.more hfit, ?_, ?_, ?_, ?_, by omega⟩
    · rw [adds_more]; have := h.adds; omega
    · rw [List.length_append]; have := h.num; simp; omega
    · show (nextV m.v e).ts.length ≤ _; omega
    · show (nextV m.v e).next ≤ _; omega
  · have hup : RightV (nextV m.v e).up := up_right hap.2 (by omega)
    have hlu : (nextV m.v e).up.ts.length ≤ 10000 := by show (nextV m.v e).ts.length ≤ _; omega
    have eu : (nextV m.v e).up.ts.length = (nextV m.v e).ts.length := rfl
    refine ⟨_, _, _, _, [wholeE (nextV m.v e).up], Prod.ext rfl (Prod.ext a1 (Prod.ext b2 a2)), b3, EdsC.one hup hlu, ?_, ?_, ?_, ?_, ?_⟩
    · show (nextV m.v e).ts.length + 0 ≤ _; omega
    · show 1 ≤ _; omega
    · show (nextV m.v e).ts.length ≤ _; omega
    · show (nextV m.v e).next + 1 ≤ _; omega
    · have := wholeB_small hup hlu
      rw [eu] at this
      exact Nat.le_trans this (by omega)
theorem cutF_ff (l : List UInt8) : cutF ([255, 255, 255, 255] ++ l) = none := by
  unfold cutF
  split
  · rfl
  · have e : ([255, 255, 255, 255] ++ l).take 4 = [255, 255, 255, 255] := rfl
    rw [e, if_pos (.inl (by decide))]
/-- What is asked of calm files that are opened. -/
theorem goodO_look {K : Nat} (h : Calm s) (hK : (wholeB vStart).length ≤ K) {nm : Nm} (hc : s.look curN = some nm) (hn : nm.length ≤ 1000000000) (hb : ∀ b, s.look nm = some b → (numM nm).isSome = true → GoodB K b) : GoodO K s := by
  refine ⟨hK, fun name b hr => ?_⟩
  rw [read_some h hc] at hr
  obtain ⟨rfl, -⟩ := Prod.mk.inj hr
  refine ⟨hn, fun hr2 hs => ?_⟩
  obtain ⟨-, d2, d3⟩ := syncDir_calm h
  cases e : s.look nm with
  | none =>
    rw [read_none d2 ((d3 _).trans e)] at hr2
    exact absurd (Prod.mk.inj hr2).2 (by decide)
  | some b' =>
    rw [read_some d2 ((d3 _).trans e)] at hr2
    obtain ⟨rfl, -⟩ := Prod.mk.inj hr2
    exact hb _ e hs
/-- Bytes behind the frames, opened. -/
theorem SpoI.junk (h : SpoI i s m rs es) (hi : i ≤ 10) (l : List UInt8) (hl : l.length ≤ 100) :
    ∃ s1 s2, s.append (nmM m.num) ([255, 255, 255, 255] ++ l) = (s1, 0) ∧ GoodO 300000 s1 ∧ openM s1 = (s2, 0, ⟨m.v.next.toNat, m.v.up⟩) ∧ SpoI (i + 1) s2 ⟨m.v.next.toNat, m.v.up⟩ [putE (wholeE m.v.up)] [wholeE m.v.up] := by
  have hf := h.few
  have hn := h.next
  have hlen := h.len
  obtain ⟨a1, a2, a3⟩ := append_calm h.man.calm ([255, 255, 255, 255] ++ l) h.man.file
  have hup : RightV m.v.up := up_right h.man.right (by omega)
  have hlu : m.v.up.ts.length ≤ 10000 := by show m.v.ts.length ≤ _; omega
  have hw := wholeB_small hup hlu
  have eu : m.v.up.ts.length = m.v.ts.length := rfl
  rw [eu] at hw
  generalize hs1 : (s.append (nmM m.num) ([255, 255, 255, 255] ++ l)).1 = s1 at a2 a3
  have hc1 : s1.look curN = some (nmM m.num) := by rw [a3]; show (if curN = nmM m.num then _ else _) = _; rw [if_neg (fun e => nmM_cur _ e.symm)]; exact h.man.cur
  have hf1 : s1.look (nmM m.num) = some (frames rs ++ ([255, 255, 255, 255] ++ l)) := by rw [a3]; show (if nmM m.num = nmM m.num then _ else _) = _; rw [if_pos rfl]
  have hr1 : ∀ nm, nm ≠ curN → nm ≠ nmM m.num → s1.look nm = none := fun nm q1 q2 => by rw [a3]; show (if nm = nmM m.num then _ else _) = _; rw [if_neg q2]; exact h.man.rest nm q1 q2
  obtain ⟨o1, o2⟩ := open_junk (rs := rs) (m := m) a2 h.man.num hc1 _ (cutF_ff l) (by simp) hf1 hr1 h.man.make h.man.few h.man.right h.man.stand (by omega) (by omega) h.man.next
  refine ⟨s1, (openM s1).1, Prod.ext hs1 a1, ?_, Prod.ext rfl o1, o2, EdsC.one hup hlu, ?_, ?_, ?_, ?_, ?_⟩
  · refine goodO_look a2 (Nat.le_trans start_len (by decide)) hc1 (show (9 : Nat) ≤ _ by omega) fun b hb _ => ?_
    obtain rfl := Option.some.inj (hf1.symm.trans hb)
    refine goodB_eds h.eds (by have := h.adds; omega) (by have := h.num; omega) _ (cutF_ff l) (by simp; omega) fun v hv => ?_
    rw [h.man.make] at hv
    obtain rfl := Option.some.inj hv
    exact ⟨by omega, by omega⟩
  · show m.v.ts.length + 0 ≤ _; omega
  · show 1 ≤ _; omega
  · show m.v.ts.length ≤ _; omega
  · show m.v.next + 1 ≤ _; omega
  · exact Nat.le_trans hw (by omega)
theorem open_bad (h : Calm s) {nm : Nm} (hc : s.look curN = some nm) (hb : numM nm = none ∨ s.look nm = none) : openM s = (s.syncDir.1, 15, ⟨0, Vr.zero⟩) := by
  obtain ⟨d1, d2, d3⟩ := syncDir_calm h
  have e : openM s = loadM s nm ⟨0, Vr.zero⟩ := by
    unfold openM
    rw [read_some h hc]
    simp
  rw [e]
  unfold loadM
  simp only
  rw [if_neg (by rw [d1]; simp)]
  rcases hb with hb | hb
  · rw [hb]
  · cases numM nm with
    | none => rfl
    | some num =>
      simp only
      rw [read_none d2 ((d3 _).trans hb), if_pos (by simp)]
/-- CURRENT is written anew, and opened twice. -/
theorem SpoI.cur (h : SpoI i s m rs es) (hi : i ≤ 11) (name : List UInt8) (hl : name.length ≤ 100) :
    ∃ s3 s4 s5 s6 s7 er m6, s.remove curN = (s3, 0) ∧ s3.create curN = (s4, 0) ∧ s4.append curN name = (s5, 0) ∧ GoodO 300000 s5 ∧ openM s5 = (s6, er, m6) ∧ GoodO 300000 s6 ∧ openM s6 = (s7, er, m6) ∧ (er = 0 → m6.v.ts.length ≤ 10000) ∧ (name ≠ nmM m.num → er = 15) := by
  have hf := h.few
  have hn := h.next
  have hlen := h.len
  have hK : (wholeB vStart).length ≤ 300000 := Nat.le_trans start_len (by decide)
  have hup : RightV m.v.up := up_right h.man.right (by omega)
  have hw := wholeB_small hup (show m.v.ts.length ≤ 10000 by omega)
  have eu : m.v.up.ts.length = m.v.ts.length := rfl
  rw [eu] at hw
  obtain ⟨a1, a2, a3⟩ := remove_calm h.man.calm cur_nm h.man.cur
  generalize hs3 : (s.remove curN).1 = s3 at a2 a3
  obtain ⟨b1, b2, b3⟩ := create_calm a2 cur_nm (by rw [a3]; exact if_pos rfl)
  generalize hs4 : (s3.create curN).1 = s4 at b2 b3
  obtain ⟨c1, c2, c3⟩ := append_calm b2 name (show s4.look curN = some [] by rw [b3]; exact if_pos rfl)
  generalize hs5 : (s4.append curN name).1 = s5 at c2 c3
  have hcur : s5.look curN = some name := by rw [c3]; exact if_pos rfl
  have hoth : ∀ n, n ≠ curN → s5.look n = s.look n := fun n q => by
    rw [c3]
    show (if n = curN then _ else s4.look n) = _
    rw [if_neg q, b3]
    show (if n = curN then _ else s3.look n) = _
    rw [if_neg q, a3]
    show (if n = curN then _ else s.look n) = _
    rw [if_neg q]
  have hGB : ∀ b, s.look (nmM m.num) = some b → GoodB 300000 b := fun b hb => by
    obtain rfl := Option.some.inj (h.man.file.symm.trans hb)
    have := goodB_eds (K := 300000) h.eds (by have := h.adds; omega) (by have := h.num; omega) [] cutF_nil (by simp; omega) (fun v hv => by
      rw [h.man.make] at hv
      obtain rfl := Option.some.inj hv
      exact ⟨by omega, by omega⟩)
    rwa [List.append_nil] at this
  have hG : ∀ s' : St, Calm s' → (∀ n, s'.look n = s5.look n) → GoodO 300000 s' := fun s' hs' he => by
    refine goodO_look hs' hK ((he _).trans hcur) (by omega) fun b hb hnm => ?_
    by_cases q : name = curN
    · rw [q, show numM curN = none by decide] at hnm
      cases hnm
    · rw [he, hoth _ q] at hb
      by_cases q2 : name = nmM m.num
      · rw [q2] at hb; exact hGB b hb
      · rw [h.man.rest _ q q2] at hb; cases hb
  by_cases q2 : name = nmM m.num
  · have hM : ManiC s5 m rs := ⟨c2, h.man.num, hcur.trans (by rw [q2]), (hoth _ (nmM_cur _)).trans h.man.file, fun n g1 g2 => (hoth n g1).trans (h.man.rest n g1 g2), h.man.make, h.man.few, h.man.right, h.man.stand, h.man.next⟩
    obtain ⟨o1, o2⟩ := open_same hM
    obtain ⟨o3, o4⟩ := open_same o2
    exact ⟨s3, s4, s5, (openM s5).1, _, 0, m, Prod.ext hs3 a1, Prod.ext hs4 b1, Prod.ext hs5 c1, hG s5 c2 (fun _ => rfl), Prod.ext rfl o1, goodO_calm hK o2 h.eds (by have := h.adds; omega) (by have := h.num; omega) (by omega) (by omega) (by omega), Prod.ext rfl o3, fun _ => by omega, fun x => absurd q2 x⟩
  · have hbad : ∀ s' : St, (∀ n, s'.look n = s5.look n) → numM name = none ∨ s'.look name = none := fun s' he => by
      by_cases q : name = curN
      · rw [q]; exact .inl (by decide)
      · right
        rw [he, hoth _ q]
        exact h.man.rest _ q q2
    obtain ⟨d1, d2, d3⟩ := syncDir_calm c2
    have o1 := open_bad c2 hcur (hbad s5 fun _ => rfl)
    have o2 := open_bad d2 ((d3 _).trans hcur) (hbad _ d3)
    exact ⟨s3, s4, s5, _, _, 15, _, Prod.ext hs3 a1, Prod.ext hs4 b1, Prod.ext hs5 c1, hG s5 c2 (fun _ => rfl), o1, hG _ d2 d3, o2, fun x => absurd x (by decide), fun _ => rfl⟩
end
end Go.Proofs.YtlecffpjcjlabaaGreat

namespace Go.Proofs.YtlecffpjcjlabaaGreat
open Go.RowKit Go.ChangeShapes Go.WideShapes Go.ChangeAt Go.Deep

/-- An edit, and where its lists lie. -/
structure EdS where
  e : Ed
  va : Value
  vd : Value
def EdS.zero : EdS := ⟨⟨0, 0, 0, [], []⟩, .slice none 0 0, .slice none 0 0⟩
def EdS.cells (x : EdS) : List Value := [.int .i64 x.e.log, .int .i64 x.e.next, .int .u64 (x.e.seq : Int), x.va, x.vd]
def IsEds (w : World) (a : Option Addr) (len : Nat) (l : List EdS) : Prop :=
  len ≤ maxLen ∧ (∀ x ∈ l, EdW w x.e x.va x.vd) ∧ l.length = len ∧ (len = 0 ∨ ∃ b off, a = some ⟨b, off, none⟩ ∧ b < w.heap.size ∧ ∀ i (h : i < l.length), ∀ j u, l[i].cells[j]? = some u → w.cell? ⟨b, off + i * 5 + j, none⟩ = some u)
theorem EdW.below {w w' : World} {e : Ed} {va vd : Value} (h : EdW w e va vd) (hb : Below w.heap.size w w') : EdW w' e va vd := ⟨h.l, h.n, h.s, h.a.below hb, h.d.below hb, h.la, h.ld, h.ka, h.kd⟩
theorem ed_of {H : Type} {enc : TypeId × Value → H} {w : World} {base n : Nat} {held : Bool} {cs : List Value} {y : DataW H × List MemPlace}
    (h : DataW.trod enc Tryz.prog w base (fun _ => true) held n 52 cs = some y) (hl : cs.length = 5) : ∃ x : EdS, EdW w x.e x.va x.vd ∧ cs = x.cells := by
  have c4 : Tryz.prog.cellsOf 52 = 5 := by kernel_rfl
  obtain ⟨e, va, vd, h1, h2⟩ := edit_of (cs := cs.toArray) (by rw [Value.cells]; exact h) (by rw [c4]; simpa using hl)
  refine ⟨⟨e, va, vd⟩, h1, ?_⟩
  unfold ediV at h2
  have h3 := congrArg Array.toList (Value.agg.inj h2)
  simpa [EdS.cells] using h3
set_option maxRecDepth 100000 in
theorem rowEd_of {H : Type} {enc : TypeId × Value → H} {w : World} {base fuel : Nat} {held : Bool} {a : Option Addr} {len cap : Nat} {x : DataW H × List MemPlace}
    (h : DataW.trod enc Tryz.prog w base (fun _ => true) held fuel 81 (Value.slice a len cap).cells.toList = some x) : ∃ l, IsEds w a len l := by
  have c4 : Tryz.prog.cellsOf 52 = 5 := by kernel_rfl
  rcases open_slice Tryz.underlying81 h with ⟨hcs, _⟩ | ⟨y, l, c, m, n, D, Pl, hcs, _, hl, hm, hmm, _, hx⟩
  · simp [Value.cells] at hcs
    obtain ⟨rfl, rfl, rfl⟩ := hcs
    exact ⟨[], by unfold maxLen; omega, by simp, rfl, .inl rfl⟩
  · simp [Value.cells] at hcs
    obtain ⟨rfl, rfl, rfl⟩ := hcs
    simp at hmm
    subst hmm
    have each : ∀ i, i < len → ∃ p : EdS, EdW w p.e p.va p.vd ∧ ∀ j u, p.cells[j]? = some u → w.cell? (y.add (i * 5 + j)) = some u := by
      intro i hi
      obtain ⟨cs', h1, h2⟩ := hx i (by omega)
      rw [c4] at h1
      obtain ⟨_, hlen, hcell⟩ := World.cells?_some h1
      obtain ⟨p, hp, rfl⟩ := ed_of h2 hlen
      refine ⟨p, hp, fun j u hj => ?_⟩
      have := hcell j (show j < 5 from (List.getElem?_eq_some_iff.1 hj).1)
      rw [Addr.add_add] at this
      rw [this, hj]
    obtain ⟨q, hq⟩ := choose_ltT EdS.zero each
    refine ⟨(List.range len).map q, Nat.le_trans hl hm, ?_, by simp, ?_⟩
    · intro p hp
      obtain ⟨i, hi, rfl⟩ := List.mem_map.1 hp
      exact (hq i (List.mem_range.1 hi)).1
    · rcases Nat.eq_zero_or_pos len with h0 | h0
      · exact .inl h0
      · right
        have hc0 := (hq 0 h0).2 0 _ rfl
        obtain ⟨b, off, spot⟩ := y
        have hs : spot = none := by simpa [Addr.add] using World.cell?_spot hc0
        subst hs
        refine ⟨b, off, rfl, block_ltT hc0, ?_⟩
        intro i hi j u hu
        have hi' : i < len := by simpa using hi
        have e : ((List.range len).map q)[i] = q i := by simp
        rw [e] at hu
        have := (hq i hi').2 j u hu
        rw [add_plainT, ← Nat.add_assoc] at this
        exact this
/-- The i-th one, in any world behind. -/
theorem IsEds.at {w wr : World} {a : Option Addr} {len : Nat} {l : List EdS} (h : IsEds w a len l) (hb : Below w.heap.size w wr) {i : Nat} (hi : i < len) :
    ∃ b off e aa ac da dc, a = some ⟨b, off, none⟩ ∧ b < w.heap.size ∧ EdW wr e (.slice aa e.add.length ac) (.slice da e.drop.length dc) ∧ wr.cell? ⟨b, off + i * 5, none⟩ = some (.int .i64 e.log) ∧ wr.cell? ⟨b, off + i * 5 + 1, none⟩ = some (.int .i64 e.next) ∧
      wr.cell? ⟨b, off + i * 5 + 2, none⟩ = some (.int .u64 (e.seq : Int)) ∧ wr.cell? ⟨b, off + i * 5 + 3, none⟩ = some (.slice aa e.add.length ac) ∧ wr.cell? ⟨b, off + i * 5 + 4, none⟩ = some (.slice da e.drop.length dc) := by
  obtain ⟨h1, h2, h3, h4⟩ := h
  rcases h4 with h0 | ⟨b, off, e1, hlt, hc⟩
  · omega
  have hw := h2 (l[i]'(by omega)) (List.getElem_mem _)
  have hcell := hc i (by omega)
  generalize l[i]'(by omega) = x at hw hcell
  obtain ⟨e, va, vd⟩ := x
  simp only at hw
  have hw' := hw.below hb
  obtain ⟨aa, ac, rfl⟩ := hw.a.len
  obtain ⟨da, dc, rfl⟩ := hw.d.len
  exact ⟨b, off, e, aa, ac, da, dc, e1, hlt, hw', (hb.cell (p := ⟨b, _, none⟩) hlt).trans (hcell 0 _ rfl), (hb.cell (p := ⟨b, _, none⟩) hlt).trans (hcell 1 _ rfl), (hb.cell (p := ⟨b, _, none⟩) hlt).trans (hcell 2 _ rfl), (hb.cell (p := ⟨b, _, none⟩) hlt).trans (hcell 3 _ rfl), (hb.cell (p := ⟨b, _, none⟩) hlt).trans (hcell 4 _ rfl)⟩
theorem EdW.ok {w : World} {e : Ed} {va vd : Value} (h : EdW w e va vd) (h1 : e.add.length ≤ 40) (h2 : ∀ t ∈ e.add, t.Short) (h3 : e.drop.length ≤ 60) : e.Ok := ⟨h.l.2, h.n.2, h.s, by omega, by omega, fun t ht => ⟨h.ka t ht, h2 t ht⟩, h.kd⟩
theorem light_putE {e : Ed} (h : e.Ok) (h1 : e.add.length ≤ 40) (h3 : e.drop.length ≤ 60) (hc : canB e = true) : (putE e).length ≤ 723000 := by
  unfold canB at hc
  rw [Bool.and_eq_true, decide_eq_true_iff] at hc
  have := putE_len h hc.1.1 hc.1.2
  omega
end Go.Proofs.YtlecffpjcjlabaaGreat

namespace Go.Proofs.YtlecffpjcjlabaaGreat
open Go.RowKit

/-- A manifest at M on the files at p, all from w's end on; beside it the blocks Fx. -/
structure MSt (w : World) (p M n m : Nat) (s : St) (mf : Mf) (brk : Bool) (Fx : Nat → Prop) (wr : World) : Prop where
  ex : ∃ a c Q, Hs (fun j => (j < w.heap.size ∨ j = M ∨ Q j) ∨ Fx j) w.heap.size p n m s wr ∧ ManAt wr M p mf (.slice a mf.v.ts.length c) brk ∧ RowQ Q wr (.slice a mf.v.ts.length c) mf.v.ts ∧ ∀ j, Q j → w.heap.size ≤ j ∧ j ≠ M ∧ ¬ Fx j
  bel : Below w.heap.size w wr
  geM : w.heap.size ≤ M
  fxM : ¬ Fx M
  fx : ∀ j, Fx j → w.heap.size ≤ j
section
variable {w wr w' : World} {p M n m : Nat} {s : St} {mf : Mf} {brk : Bool} {Fx Gx : Nat → Prop}
theorem MSt.lt (h : MSt w p M n m s mf brk Fx wr) : ∀ j, Fx j → j < wr.heap.size := by
  obtain ⟨a, c, Q, h1, -⟩ := h.ex
  exact fun j hj => h1.lt j (.inr hj)
theorem MSt.ltM (h : MSt w p M n m s mf brk Fx wr) : M < wr.heap.size := by
  obtain ⟨a, c, Q, h1, -⟩ := h.ex
  exact h1.lt M (.inl (.inr (.inl rfl)))
theorem MSt.size (h : MSt w p M n m s mf brk Fx wr) : w.heap.size ≤ wr.heap.size := h.bel.size
theorem MSt.up {n' m' : Nat} (h : MSt w p M n m s mf brk Fx wr) (hn : n ≤ n') (hm : m ≤ m') : MSt w p M n' m' s mf brk Fx wr := by
  obtain ⟨a, c, Q, h1, h2⟩ := h.ex
  exact ⟨⟨a, c, Q, h1.up hn hm, h2⟩, h.bel, h.geM, h.fxM, h.fx⟩
/-- Blocks were made besides. -/
theorem MSt.made (h : MSt w p M n m s mf brk Fx wr) (b : Below wr.heap.size wr w') (hG : ∀ j, Gx j → Fx j ∨ (wr.heap.size ≤ j ∧ j < w'.heap.size)) : MSt w p M n m s mf brk Gx w' := by
  have hlM := h.ltM
  have hsz := h.size
  obtain ⟨a, c, Q, h1, h2, h3, h4⟩ := h.ex
  have hlt := h1.lt
  refine ⟨⟨a, c, Q, h1.below b fun j hj => ?_, h2.kept (b.block M hlM), h3.kept fun j hj => b.block j (hlt j (.inl (.inr (.inr hj)))), fun j hj => ?_⟩, h.bel.trans (b.mono hsz), h.geM, fun hM => ?_, fun j hj => ?_⟩
  · rcases hj with hj | hj
    · exact .inl (.inl hj)
    · rcases hG j hj with hj | hj
      · exact .inl (.inr hj)
      · exact .inr hj
  · have q := h4 j hj
    refine ⟨q.1, q.2.1, fun hx => ?_⟩
    rcases hG j hx with hx | hx
    · exact q.2.2 hx
    · have := hlt j (.inl (.inr (.inr hj))); omega
  · rcases hG M hM with hx | hx
    · exact h.fxM hx
    · omega
  · rcases hG j hj with hx | hx
    · exact h.fx j hx
    · omega
theorem MSt.same (h : MSt w p M n m s mf brk Fx wr) (b : Below wr.heap.size wr w') : MSt w p M n m s mf brk Fx w' := h.made b fun _ hj => .inl hj
theorem MSt.fewer (h : MSt w p M n m s mf brk Fx wr) (hG : ∀ j, Gx j → Fx j) : MSt w p M n m s mf brk Gx wr := h.made (Below.refl _ _) fun j hj => .inl (hG j hj)
/-- Blocks of Fx were written. -/
theorem MSt.wrote (h : MSt w p M n m s mf brk Fx wr) (hs : w'.heap.size = wr.heap.size) (hb : Below w.heap.size w w') (hk : ∀ j, ¬ Fx j → w'.heap[j]? = wr.heap[j]?) : MSt w p M n m s mf brk Fx w' := by
  obtain ⟨a, c, Q, h1, h2, h3, h4⟩ := h.ex
  exact ⟨⟨a, c, Q, h1.wrote (Nat.le_of_eq hs.symm) fun j _ hj => hk j fun hf => hj (.inr hf), h2.kept (hk M h.fxM), h3.kept fun j hj => hk j (h4 j hj).2.2, h4⟩, hb, h.geM, h.fxM, h.fx⟩
/-- A call of the files. -/
theorem MSt.call (h : MSt w p M n m s mf brk Fx wr) : ∃ F, Hs F w.heap.size p n m s wr ∧ ∀ n' m' s' w', Hs F w.heap.size p n' m' s' w' → Below w.heap.size wr w' → Kp F wr w' → MSt w p M n' m' s' mf brk Fx w' ∧ ∀ j, Fx j → w'.heap[j]? = wr.heap[j]? := by
  obtain ⟨a, c, Q, h1, h2, h3, h4⟩ := h.ex
  exact ⟨_, h1, fun n' m' s' w' k1 k2 k3 => ⟨⟨⟨a, c, Q, k1, h2.kept (k3 M (.inl (.inr (.inl rfl)))), h3.kept fun j hj => k3 j (.inl (.inr (.inr hj))), h4⟩, h.bel.trans k2, h.geM, h.fxM, h.fx⟩, fun j hj => k3 j (.inr hj)⟩⟩
theorem mst_version (h : MSt w p M n m s mf brk Fx wr) (b : Below wr.heap.size wr w') (hl : mf.v.ts.length ≤ 10000) :
    Calls Tryz.prog 20 #[.pointer (some ⟨M, 0, none⟩)] w' fun e w2 => ∃ ra rc, e = .returned (.agg #[.int .i64 mf.v.log, .int .i64 mf.v.next, .int .u64 (mf.v.seq : Int), .slice ra mf.v.ts.length rc]) ∧ RowB w2 (.slice ra mf.v.ts.length rc) mf.v.ts ∧ (∀ k, ob (.slice ra mf.v.ts.length rc) = some k → w'.heap.size ≤ k) ∧ Below w'.heap.size w' w2 := by
  obtain ⟨a, c, Q, -, h2, h3, -⟩ := (h.same b).ex
  exact mversion_any a c h2 h3.row.v hl
theorem mst_broken (h : MSt w p M n m s mf brk Fx wr) : Calls Tryz.prog 23 #[.pointer (some ⟨M, 0, none⟩)] wr fun e w' => e = .returned (.bool brk) ∧ wr = w' := by
  obtain ⟨a, c, Q, -, h2, -, -⟩ := h.ex
  exact mbroken_any h2
theorem mst_name (h : MSt w p M n m s mf brk Fx wr) (b : Below wr.heap.size wr w') (hn : mf.num < 100000000) : Calls Tryz.prog 22 #[.pointer (some ⟨M, 0, none⟩)] w' fun e w2 => e = .returned (.string ⟨(nmM mf.num).toArray⟩) ∧ Below w'.heap.size w' w2 := by
  obtain ⟨a, c, Q, -, h2, -, -⟩ := (h.same b).ex
  exact mnameof_any h2 hn
theorem mst_add (h : MSt w p M n m s mf false Fx wr) (hN : n ≤ 50000) (hM : m ≤ 600000000) (hmn : mf.num < 100000000) (hv0 : WayV mf.v) (hl0 : mf.v.ts.length ≤ 10000)
    (e : Ed) (aa : Option Addr) (ac : Nat) (da : Option Addr) (dc : Nat) (hEA : TbsV wr (.slice aa e.add.length ac) e.add) (hED : IntsV wr (.slice da e.drop.length dc) e.drop) (he : e.Ok) (L : Nat) (hL : canB e = true → (putE e).length ≤ L) (hL2 : L ≤ 10000000) (hl : (nextV mf.v e).ts.length ≤ 10000) (K : Nat) (hK : (wholeB (nextV mf.v e).up).length ≤ K)
    (sr : St) (er : Int) (mr : Mf) (br : Bool) (hr : addM s mf false e = (sr, er, mr, br)) :
    Calls Tryz.prog 12 #[.pointer (some ⟨M, 0, none⟩), .agg #[.int .i64 e.log, .int .i64 e.next, .int .u64 (e.seq : Int), .slice aa e.add.length ac, .slice da e.drop.length dc]] wr fun x w' => x = .returned (.int .i64 er) ∧
      MSt w p M (n + 24) (m + (8 + L) + K + 9) sr mr br Fx w' ∧ Below w.heap.size wr w' ∧ ∀ j, Fx j → w'.heap[j]? = wr.heap[j]? := by
  have hsz := h.size
  have hltM := h.ltM
  have hlt := h.lt
  obtain ⟨a, c, Q, h1, h2, h3, h4⟩ := h.ex
  refine (mAdd_any h1 hN hM M mf hmn a c h2 (.inl (.inr (.inl rfl))) h.geM h3.row.v hv0 hl0 e aa ac da dc hEA hED he L hL hL2 hl K hK sr er mr br hr).mono ?_
  rintro x w' ⟨rfl, a', c', Q', q⟩
  refine ⟨rfl, ⟨?_, h.bel.trans q.bel, h.geM, h.fxM, h.fx⟩, q.bel, fun j hj => q.kp j (.inr hj) (fun e => h.fxM (e ▸ hj))⟩
  rcases q.row with ⟨e1, e2, e3⟩ | hq
  · subst e1 e2 e3
    exact ⟨_, _, Q, q.hs.fewer fun j hj => .inl hj, q.man, h3.kept fun j hj => q.kp j (.inl (.inr (.inr hj))) (h4 j hj).2.1, h4⟩
  · refine ⟨a', c', Q', q.hs.fewer fun j hj => ?_, q.man, hq, fun j hj => ?_⟩
    · rcases hj with (hj | hj | hj) | hj
      · exact .inl (.inl (.inl hj))
      · exact .inl (.inl (.inr (.inl hj)))
      · exact .inr hj
      · exact .inl (.inr hj)
    · have := q.new j hj
      exact ⟨by omega, by omega, fun hx => by have := hlt j hx; omega⟩
/-- What an Open answers that was asked beside a manifest. -/
def OpenS (w : World) (p n m : Nat) (sr : St) (er : Int) (mr : Mf) (Fx : Nat → Prop) (wr : World) (e : Ending) (w' : World) : Prop :=
  (er ≠ 0 ∧ e = .returned (.tuple #[.pointer none, .agg #[.int .i64 0, .int .i64 0, .int .u64 0, .slice none 0 0], .int .i64 er])) ∨
  (er = 0 ∧ ∃ M' ra rc Q2, e = .returned (.tuple #[.pointer (some ⟨M', 0, none⟩), .agg #[.int .i64 mr.v.log, .int .i64 mr.v.next, .int .u64 (mr.v.seq : Int), .slice ra mr.v.ts.length rc], .int .i64 0]) ∧ MSt w p M' n m sr mr false (fun j => Fx j ∨ Q2 j) w' ∧ RowQ Q2 w' (.slice ra mr.v.ts.length rc) mr.v.ts ∧ ∀ j, Q2 j → wr.heap.size ≤ j)
theorem mst_open (h : MSt w p M n m s mf brk Fx wr) (hN : n ≤ 50000) (hM : m ≤ 700000000) (K : Nat) (hG : GoodO K s) (sr : St) (er : Int) (mr : Mf) (hr : openM s = (sr, er, mr)) (hl : er = 0 → mr.v.ts.length ≤ 10000) :
    Calls Tryz.prog 15 #[.pointer (some ⟨p, 0, none⟩)] wr fun e w' => Below w.heap.size wr w' ∧ (∀ j, Fx j → w'.heap[j]? = wr.heap[j]?) ∧ MSt w p M (n + 24) (m + K + 9) sr mf brk Fx w' ∧ OpenS w p (n + 24) (m + K + 9) sr er mr Fx wr e w' := by
  have hsz := h.size
  have hlt := h.lt
  obtain ⟨a, c, Q, h1, h2, h3, h4⟩ := h.ex
  refine (mopen_any h1 hN hM K hG sr er mr hr hl).mono ?_
  rintro e w' (⟨hz, rfl, q1, q2, q3⟩ | ⟨hz, M', a', c', Q', ra, rc, Q2, rfl, q⟩)
  · exact ⟨q2, fun j hj => q3 j (.inr hj), ⟨⟨a, c, Q, q1, h2.kept (q3 M (.inl (.inr (.inl rfl)))), h3.kept fun j hj => q3 j (.inl (.inr (.inr hj))), h4⟩, h.bel.trans q2, h.geM, h.fxM, h.fx⟩, .inl ⟨hz, rfl⟩⟩
  · have hM' := q.newM
    refine ⟨q.bel, fun j hj => q.kp j (.inr hj), ⟨⟨a, c, Q, q.hs.fewer fun j hj => .inl hj, h2.kept (q.kp M (.inl (.inr (.inl rfl)))), h3.kept fun j hj => q.kp j (.inl (.inr (.inr hj))), h4⟩, h.bel.trans q.bel, h.geM, h.fxM, h.fx⟩, .inr ⟨hz, M', ra, rc, Q2, rfl, ⟨⟨a', c', Q', q.hs.fewer fun j hj => ?_, q.man, q.row, fun j hj => ?_⟩, h.bel.trans q.bel, by omega, fun hx => ?_, fun j hj => ?_⟩, q.row2, fun j hj => (q.newQ2 j hj).1⟩⟩
    · rcases hj with (hj | hj | hj) | hj | hj
      · exact .inl (.inl (.inl hj))
      · exact .inr (.inl hj)
      · exact .inr (.inr (.inl hj))
      · exact .inl (.inr hj)
      · exact .inr (.inr (.inr hj))
    · have g := q.newQ j hj
      refine ⟨by omega, g.2, fun hx => ?_⟩
      rcases hx with hx | hx
      · have := hlt j hx; omega
      · exact (q.newQ2 j hx).2.2 hj
    · rcases hx with hx | hx
      · have := hlt M' hx; omega
      · exact (q.newQ2 M' hx).2.1 rfl
    · rcases hj with hj | hj
      · exact h.fx j hj
      · have := (q.newQ2 j hj).1; omega
/-- The first Open of files that were just made. -/
theorem mst_start {w1 : World} (hb : Below w.heap.size w w1) (h : Hs (fun k => k < w.heap.size) w.heap.size p n m s w1) (hN : n ≤ 50000) (hM : m ≤ 700000000) (K : Nat) (hG : GoodO K s) (sr : St) (er : Int) (mr : Mf) (hr : openM s = (sr, er, mr)) (hl : er = 0 → mr.v.ts.length ≤ 10000) :
    Calls Tryz.prog 15 #[.pointer (some ⟨p, 0, none⟩)] w1 fun e w' => Below w.heap.size w w' ∧ ((er ≠ 0 ∧ e = .returned (.tuple #[.pointer none, .agg #[.int .i64 0, .int .i64 0, .int .u64 0, .slice none 0 0], .int .i64 er]) ∧ Hs (fun k => k < w.heap.size) w.heap.size p (n + 24) (m + K + 9) sr w') ∨
      (er = 0 ∧ ∃ M ra rc Q2, e = .returned (.tuple #[.pointer (some ⟨M, 0, none⟩), .agg #[.int .i64 mr.v.log, .int .i64 mr.v.next, .int .u64 (mr.v.seq : Int), .slice ra mr.v.ts.length rc], .int .i64 0]) ∧ MSt w p M (n + 24) (m + K + 9) sr mr false Q2 w' ∧ RowQ Q2 w' (.slice ra mr.v.ts.length rc) mr.v.ts)) := by
  have hsz := hb.size
  refine (mopen_any h hN hM K hG sr er mr hr hl).mono ?_
  rintro e w' (⟨hz, rfl, q1, q2, q3⟩ | ⟨hz, M', a', c', Q', ra, rc, Q2, rfl, q⟩)
  · exact ⟨hb.trans q2, .inl ⟨hz, rfl, q1⟩⟩
  · have hM' := q.newM
    refine ⟨hb.trans q.bel, .inr ⟨hz, M', ra, rc, Q2, rfl, ⟨⟨a', c', Q', q.hs.fewer fun j hj => ?_, q.man, q.row, fun j hj => ?_⟩, hb.trans q.bel, by omega, fun hx => (q.newQ2 M' hx).2.1 rfl, fun j hj => ?_⟩, q.row2⟩⟩
    · rcases hj with (hj | hj | hj) | hj
      · exact .inl hj
      · exact .inr (.inl hj)
      · exact .inr (.inr (.inl hj))
      · exact .inr (.inr (.inr hj))
    · have g := q.newQ j hj
      exact ⟨by omega, g.2, fun hx => (q.newQ2 j hx).2.2 hj⟩
    · have := (q.newQ2 j hj).1; omega
end
/-- A version that was told, in a box of its own. -/
def AppS (W : World) (v : Vr) (X : Nat) (w' : World) : Prop := ∃ ra rc Q, BoxV X v.log v.next v.seq (.slice ra v.ts.length rc) w' ∧ RowQ Q w' (.slice ra v.ts.length rc) v.ts ∧ (∀ j, Q j → W.heap.size ≤ j ∧ j < w'.heap.size ∧ j ≠ X) ∧ W.heap.size ≤ X ∧ Below W.heap.size W w'
section
variable {W w7 : World} {v : Vr} {ra : Option Addr} {rc X : Nat}
theorem appS_new (hb : Below W.heap.size W w7) (hr : RowB w7 (.slice ra v.ts.length rc) v.ts) (ho : ∀ k, ob (.slice ra v.ts.length rc) = some k → W.heap.size ≤ k) :
    AppS W v w7.heap.size (w7.alloc (.cells #[.int .i64 v.log, .int .i64 v.next, .int .u64 (v.seq : Int), .slice ra v.ts.length rc] 63)) := by
  refine ⟨ra, rc, _, new_block _ _ rfl, (rowQ_of hr).kept fun j hj => Below.heap_alloc _ _ _ hj.2, fun j hj => ⟨ho j hj.1, ?_, ?_⟩, hb.size, hb.alloc hb.size _⟩
  · have := hj.2
    simp
    omega
  · have := hj.2
    omega
theorem appS_set (zb : BoxV X 0 0 0 (.slice none 0 0) w7) (hX : W.heap.size ≤ X) (hb : Below W.heap.size W w7) (hr : RowB w7 (.slice ra v.ts.length rc) v.ts) (ho : ∀ k, ob (.slice ra v.ts.length rc) = some k → W.heap.size ≤ k ∧ k ≠ X) :
    AppS W v X (set4V w7 X v.log v.next (v.seq : Int) (.slice ra v.ts.length rc)) :=
  ⟨ra, rc, _, zb.set4 _ _ _ _, (rowQ_of hr).kept fun j hj => set4V_block _ _ _ _ _ _ _ (ho j hj.1).2, fun j hj => ⟨(ho j hj.1).1, by rw [set4V_size]; exact hj.2, (ho j hj.1).2⟩, hX, set4V_below hb X hX _ _ _ _⟩
end
theorem apply_told (v : Vr) (e : Ed) (a aa da : Option Addr) (c ac dc : Nat) (W : World) (hT : TbsV W (.slice a v.ts.length c) v.ts) (hA : TbsV W (.slice aa e.add.length ac) e.add) (hD : IntsV W (.slice da e.drop.length dc) e.drop) (hl : v.ts.length ≤ 10000) (hv : WayV v) (he : e.Ok) (ha : Applies v e) :
    Calls Tryz.prog 28 #[.agg #[.int .i64 v.log, .int .i64 v.next, .int .u64 (v.seq : Int), .slice a v.ts.length c], .agg #[.int .i64 e.log, .int .i64 e.next, .int .u64 (e.seq : Int), .slice aa e.add.length ac, .slice da e.drop.length dc]] W fun x w' => ∃ ra rc, x = .returned (.tuple #[.agg #[.int .i64 (nextV v e).log, .int .i64 (nextV v e).next, .int .u64 ((nextV v e).seq : Int), .slice ra (nextV v e).ts.length rc], .int .i64 0]) ∧
      RowB w' (.slice ra (nextV v e).ts.length rc) (nextV v e).ts ∧ (∀ k, ob (.slice ra (nextV v e).ts.length rc) = some k → W.heap.size ≤ k) ∧ Below W.heap.size W w' := by
  obtain ⟨-, -, -, h4, h5, h6, h7⟩ := he
  refine (apply_any v e _ _ _ W hT hA hD hl h4 h5 hv.ok h6 h7).mono fun x w' h => ?_
  obtain ⟨h1, h2⟩ := h
  rcases h1 with ⟨h1, -⟩ | ⟨-, r', h1, h3, h4⟩
  · exact absurd ha h1
  · obtain ⟨ra, rc, rfl⟩ := h3.short
    exact ⟨ra, rc, h1, h3, h4, h2⟩
theorem apply_no (v : Vr) (e : Ed) (a aa da : Option Addr) (c ac dc : Nat) (W : World) (hT : TbsV W (.slice a v.ts.length c) v.ts) (hA : TbsV W (.slice aa e.add.length ac) e.add) (hD : IntsV W (.slice da e.drop.length dc) e.drop) (hl : v.ts.length ≤ 10000) (hv : WayV v) (he : e.Ok) (ha : ¬ Applies v e) :
    Calls Tryz.prog 28 #[.agg #[.int .i64 v.log, .int .i64 v.next, .int .u64 (v.seq : Int), .slice a v.ts.length c], .agg #[.int .i64 e.log, .int .i64 e.next, .int .u64 (e.seq : Int), .slice aa e.add.length ac, .slice da e.drop.length dc]] W fun x w' => x = .returned (.tuple #[.agg #[.int .i64 0, .int .i64 0, .int .u64 0, .slice none 0 0], .int .i64 4]) ∧ Below W.heap.size W w' := by
  obtain ⟨-, -, -, h4, h5, h6, h7⟩ := he
  refine (apply_any v e _ _ _ W hT hA hD hl h4 h5 hv.ok h6 h7).mono fun x w' h => ?_
  obtain ⟨h1, h2⟩ := h
  rcases h1 with ⟨-, h1⟩ | ⟨h1, -⟩
  · exact ⟨h1, h2⟩
  · exact absurd h1 ha
section
variable {w wr : World} {p M n m : Nat} {s s' : St} {er : Int} {mf : Mf} {brk : Bool} {Fx : Nat → Prop}
theorem mst_create (h : MSt w p M n m s mf brk Fx wr) (hN : n ≤ 100000) (name : ByteArray) (hn : name.size ≤ maxLen) (hr : s.create name.data.toList = (s', er)) :
    Calls Tryz.prog 36 #[.pointer (some ⟨p, 0, none⟩), .string name] wr fun e w' => e = .returned (.int .i64 er) ∧ MSt w p M (n + 2) m s' mf brk Fx w' ∧ Below w.heap.size wr w' ∧ ∀ j, Fx j → w'.heap[j]? = wr.heap[j]? := by
  obtain ⟨F, h1, h2⟩ := h.call
  refine (hs_create h1 hN name hn).mono ?_
  rintro e w' ⟨rfl, q1, q2, q3⟩
  rw [hr] at q1 ⊢
  exact ⟨rfl, (h2 _ _ _ _ q1 q2 q3).1, q2, (h2 _ _ _ _ q1 q2 q3).2⟩
theorem mst_append (h : MSt w p M n m s mf brk Fx wr) (hN : n ≤ 100000) (name : ByteArray) (hn : name.size ≤ maxLen) (data : ByteArray) (hM : m ≤ 1000000000) (hD : data.size ≤ 1000000000) (hr : s.append name.data.toList data.data.toList = (s', er)) :
    Calls Tryz.prog 34 #[.pointer (some ⟨p, 0, none⟩), .string name, .string data] wr fun e w' => e = .returned (.int .i64 er) ∧ MSt w p M (n + 1) (m + data.size) s' mf brk Fx w' ∧ Below w.heap.size wr w' ∧ ∀ j, Fx j → w'.heap[j]? = wr.heap[j]? := by
  obtain ⟨F, h1, h2⟩ := h.call
  refine (hs_append h1 hN name hn data hM hD).mono ?_
  rintro e w' ⟨rfl, q1, q2, q3⟩
  rw [hr] at q1 ⊢
  exact ⟨rfl, (h2 _ _ _ _ q1 q2 q3).1, q2, (h2 _ _ _ _ q1 q2 q3).2⟩
theorem mst_remove (h : MSt w p M n m s mf brk Fx wr) (hN : n ≤ 100000) (name : ByteArray) (hn : name.size ≤ maxLen) (hr : s.remove name.data.toList = (s', er)) :
    Calls Tryz.prog 35 #[.pointer (some ⟨p, 0, none⟩), .string name] wr fun e w' => e = .returned (.int .i64 er) ∧ MSt w p M (n + 2) m s' mf brk Fx w' ∧ Below w.heap.size wr w' ∧ ∀ j, Fx j → w'.heap[j]? = wr.heap[j]? := by
  obtain ⟨F, h1, h2⟩ := h.call
  refine (hs_remove h1 hN name hn).mono ?_
  rintro e w' ⟨rfl, q1, q2, q3⟩
  rw [hr] at q1 ⊢
  exact ⟨rfl, (h2 _ _ _ _ q1 q2 q3).1, q2, (h2 _ _ _ _ q1 q2 q3).2⟩
theorem mst_read (h : MSt w p M n m s mf brk Fx wr) (name : ByteArray) (hn : name.size ≤ maxLen) :
    Calls Tryz.prog 32 #[.pointer (some ⟨p, 0, none⟩), .string name] wr fun e w' => e = .returned (readV (s.read name.data.toList)) ∧ wr = w' := by
  obtain ⟨F, h1, -⟩ := h.call
  exact hs_read h1 name hn
theorem mst_names (h : MSt w p M n m s mf brk Fx wr) (hN : n ≤ 1000000) :
    Calls Tryz.prog 33 #[.pointer (some ⟨p, 0, none⟩)] wr fun e w' => ∃ v, e = .returned v ∧ Row w' 9 1 v s.names.length (nmVals s.names) ∧ Below wr.heap.size wr w' := by
  obtain ⟨F, h1, -⟩ := h.call
  exact (hs_names h1 hN).mono fun e w' ⟨v, h1, h2, _, h3⟩ => ⟨v, h1, h2, h3⟩
/-- An Open whose manifest and version are passed by. -/
theorem mst_open_weak (h : MSt w p M n m s mf brk Fx wr) (hN : n ≤ 50000) (hM : m ≤ 700000000) (K : Nat) (hG : GoodO K s) (er : Int) (mr : Mf) (hr : openM s = (s', er, mr)) (hl : er = 0 → mr.v.ts.length ≤ 10000) :
    Calls Tryz.prog 15 #[.pointer (some ⟨p, 0, none⟩)] wr fun e w' => ∃ (pv : Value) (x0 x1 x2 : Int) (xa : Option Addr) (xn xc : Nat), e = .returned (.tuple #[pv, .agg #[.int .i64 x0, .int .i64 x1, .int .u64 x2, .slice xa xn xc], .int .i64 er]) ∧ MSt w p M (n + 24) (m + K + 9) s' mf brk Fx w' ∧ Below w.heap.size wr w' ∧ ∀ j, Fx j → w'.heap[j]? = wr.heap[j]? := by
  refine (mst_open h hN hM K hG s' er mr hr hl).mono ?_
  rintro e w' ⟨h1, h2, h3, ⟨-, rfl⟩ | ⟨rfl, M', ra, rc, Q2, rfl, -⟩⟩
  · exact ⟨_, _, _, _, _, _, _, rfl, h3, h1, h2⟩
  · exact ⟨_, _, _, _, _, _, _, rfl, h3, h1, h2⟩
end
theorem start_lit {w w' : World} {p n m : Nat} {sr : St} {e : Ending} (h : Below w.heap.size w w' ∧ (((0 : Int) ≠ 0 ∧ e = .returned (.tuple #[.pointer none, .agg #[.int .i64 0, .int .i64 0, .int .u64 0, .slice none 0 0], .int .i64 0]) ∧ Hs (fun k => k < w.heap.size) w.heap.size p n m sr w') ∨
      ((0 : Int) = 0 ∧ ∃ M ra rc Q2, e = .returned (.tuple #[.pointer (some ⟨M, 0, none⟩), .agg #[.int .i64 vStart.log, .int .i64 vStart.next, .int .u64 (vStart.seq : Int), .slice ra vStart.ts.length rc], .int .i64 0]) ∧ MSt w p M n m sr ⟨1, vStart⟩ false Q2 w' ∧ RowQ Q2 w' (.slice ra vStart.ts.length rc) vStart.ts))) :
    ∃ M ra rc Q2, e = .returned (.tuple #[.pointer (some ⟨M, 0, none⟩), .agg #[.int .i64 2, .int .i64 2, .int .u64 0, .slice ra 0 rc], .int .i64 0]) ∧ MSt w p M n m sr ⟨1, vStart⟩ false Q2 w' ∧ RowQ Q2 w' (.slice ra 0 rc) [] := by
  rcases h with ⟨-, ⟨h0, -⟩ | ⟨-, h⟩⟩
  · exact absurd rfl h0
  · exact h
theorem opens_ok {w wr w' : World} {p n m : Nat} {sr : St} {mr : Mf} {Fx : Nat → Prop} {e : Ending} (h : OpenS w p n m sr 0 mr Fx wr e w') :
    ∃ M' ra rc Q2, e = .returned (.tuple #[.pointer (some ⟨M', 0, none⟩), .agg #[.int .i64 mr.v.log, .int .i64 mr.v.next, .int .u64 (mr.v.seq : Int), .slice ra mr.v.ts.length rc], .int .i64 0]) ∧ MSt w p M' n m sr mr false (fun j => Fx j ∨ Q2 j) w' ∧ RowQ Q2 w' (.slice ra mr.v.ts.length rc) mr.v.ts ∧ ∀ j, Q2 j → wr.heap.size ≤ j := by
  rcases h with ⟨h0, -⟩ | ⟨-, h⟩
  · exact absurd rfl h0
  · exact h
end Go.Proofs.YtlecffpjcjlabaaGreat
