/- ManiSpoilt: edits one behind the other on calm files, bytes behind them, another CURRENT (plain). -/
import Derived.Test.YtlecffpjcjlabaaGreatIM3
namespace Go.Proofs.YtlecffpjcjlabaaGreat
open Go.RowKit Go.Lib

/-- How long a version is when it is laid whole, though it may not be right. -/
theorem putTs_append (a b : List Tb) : (putTs (a ++ b)).length = (putTs a).length + (putTs b).length := by simp [putTs]
theorem putTs_perm {a b : List Tb} (h : a.Perm b) : (putTs a).length = (putTs b).length := (h.map putT).flatten.length_eq
theorem next_whole_len {v : Vr} {e : Ed} (hv : RightV v) (he : e.Ok) (hl : v.ts.length ≤ 10000) : (wholeB (nextV v e).up).length ≤ 70 + v.ts.length * 660 + e.add.length * 18050 := by
  obtain ⟨h1, h2, h3, h4, h5, h6, h7⟩ := he
  have hp := (ordT_both (leftT v.ts e.drop ++ e.add)).1
  have hb := hv.1
  have hll := leftT_len v.ts e.drop
  have hal : (nextV v e).ts.length ≤ v.ts.length + e.add.length := next_len v e
  have a1 : (putTs (nextV v e).ts).length ≤ v.ts.length * 660 + e.add.length * 18050 := by
    show (putTs (ordT _)).length ≤ _
    rw [putTs_perm hp, putTs_append]
    have b1 := putTs_len3 (leftT v.ts e.drop) (fun t ht => (hv.2.1 t (List.mem_filter.1 ht).1).fits (by omega))
    have b2 := putTs_len e.add h6
    have b3 : (leftT v.ts e.drop).length * 660 ≤ v.ts.length * 660 := Nat.mul_le_mul_right _ hll
    omega
  have a2 := three_vars (max v.log e.log).toNat (max v.next e.next + 1).toNat (max v.seq e.seq) (by omega) (by omega) (by omega)
  have a3 := one_vars (nextV v e).ts.length (by omega)
  have a4 := one_vars 0 (by omega)
  unfold wholeB
  rw [show frames [putE (wholeE (nextV v e).up)] = frm (putE (wholeE (nextV v e).up)) by simp [frames], frm_length]
  have e1 : putE (wholeE (nextV v e).up) = vars [(max v.log e.log).toNat, (max v.next e.next + 1).toNat, max v.seq e.seq] ++ (vars [(nextV v e).ts.length] ++ (putTs (nextV v e).ts ++ (vars [0] ++ putI []))) := rfl
  have e2 : (putI []).length = 0 := rfl
  rw [e1, List.length_append, List.length_append, List.length_append, List.length_append, e2]
  omega
/-- Behind i edits. -/
structure SpoI (i : Nat) (s : St) (m : Mf) (rs : List (List UInt8)) (es : List Ed) : Prop where
  man : ManiC s m rs
  eds : EdsC es rs
  adds : adds es ≤ 40 * i
  num : es.length ≤ 1 + i
  few : m.v.ts.length ≤ 40 * i
  next : m.v.next ≤ 1000000 + (i : Int)
  len : (frames rs).length ≤ 300000
section
variable {i : Nat} {s : St} {m : Mf} {rs : List (List UInt8)} {es : List Ed}
theorem SpoI.more (h : SpoI i s m rs es) : SpoI (i + 1) s m rs es := ⟨h.man, h.eds, by have := h.adds; omega, by have := h.num; omega, by have := h.few; omega, by have := h.next; omega, h.len⟩
theorem spoI_start : ∃ s1, openM (St.new 0) = (s1, 0, ⟨1, vStart⟩) ∧ SpoI 0 s1 ⟨1, vStart⟩ [putE (wholeE vStart)] [wholeE vStart] := by
  obtain ⟨h1, h2⟩ := open_new calm_new (fun n => look_new n)
  have := start_len
  exact ⟨_, Prod.ext rfl h1, h2, EdsC.one vStart_right.1 (Nat.zero_le _), Nat.zero_le _, Nat.le_refl _, Nat.le_refl _, by decide, Nat.le_trans this (by decide)⟩
theorem SpoI.step (h : SpoI i s m rs es) (hi : i < 10) {e : Ed} (h1 : e.add.length ≤ 40) (h2 : e.drop.length ≤ 60) (hx : e.next ≤ 1000000) :
    ∃ s' er m' rs' es', addM s m false e = (s', er, m', false) ∧ SpoI (i + 1) s' m' rs' es' := by
  by_cases hc : canB e = true
  rotate_left
  · exact ⟨_, _, _, _, _, addM_1 (by simpa using hc), h.more⟩
  by_cases ha : appliesB m.v e = true
  rotate_left
  · exact ⟨_, _, _, _, _, addM_2 hc (by simpa using ha), h.more⟩
  have hap := appliesB_iff.1 ha
  have hfit := fits_of h.man.right hc hap (by omega) (by omega)
  have hf := h.few
  have hn := h.next
  have hnl := next_len m.v e
  have hnn : (nextV m.v e).next = max m.v.next e.next := rfl
  obtain ⟨a1, a2, a3⟩ := add_calm h.man hc hap (by omega) (by omega) (by omega) (by omega)
  rcases a3 with ⟨b1, b2, b3⟩ | ⟨b1, b2, b3⟩
  · refine ⟨_, _, _, _, es ++ [e], Prod.ext rfl (Prod.ext a1 (Prod.ext b2 a2)), b3, h.eds.more hfit, ?_, ?_, ?_, ?_, by omega⟩
    · rw [adds_more]; have := h.adds; omega
    · rw [List.length_append]; have := h.num; simp; omega
    · show (nextV m.v e).ts.length ≤ _; omega
    · show (nextV m.v e).next ≤ _; omega
  · have hup : RightV (nextV m.v e).up := up_right hap.2 (by omega)
    have hlu : (nextV m.v e).up.ts.length ≤ 10000 := by show (nextV m.v e).ts.length ≤ _; omega
    have eu : (nextV m.v e).up.ts.length = (nextV m.v e).ts.length := rfl
    refine ⟨_, _, _, _, [wholeE (nextV m.v e).up], Prod.ext rfl (Prod.ext a1 (Prod.ext b2 a2)), b3, EdsC.one hup hlu, ?_, ?_, ?_, ?_, ?_⟩
    · show (nextV m.v e).ts.length + 0 ≤ _; omega
    · show 1 ≤ _; omega
    · show (nextV m.v e).ts.length ≤ _; omega
    · show (nextV m.v e).next + 1 ≤ _; omega
    · have := wholeB_small hup hlu
      rw [eu] at this
      exact Nat.le_trans this (by omega)
theorem cutF_ff (l : List UInt8) : cutF ([255, 255, 255, 255] ++ l) = none := by
  unfold cutF
  split
  · rfl
  · have e : ([255, 255, 255, 255] ++ l).take 4 = [255, 255, 255, 255] := rfl
    rw [e, if_pos (.inl (by decide))]
/-- What is asked of calm files that are opened. -/
theorem goodO_look {K : Nat} (h : Calm s) (hK : (wholeB vStart).length ≤ K) {nm : Nm} (hc : s.look curN = some nm) (hn : nm.length ≤ 1000000000) (hb : ∀ b, s.look nm = some b → (numM nm).isSome = true → GoodB K b) : GoodO K s := by
  refine ⟨hK, fun name b hr => ?_⟩
  rw [read_some h hc] at hr
  obtain ⟨rfl, -⟩ := Prod.mk.inj hr
  refine ⟨hn, fun hr2 hs => ?_⟩
  obtain ⟨-, d2, d3⟩ := syncDir_calm h
  cases e : s.look nm with
  | none =>
    rw [read_none d2 ((d3 _).trans e)] at hr2
    exact absurd (Prod.mk.inj hr2).2 (by decide)
  | some b' =>
    rw [read_some d2 ((d3 _).trans e)] at hr2
    obtain ⟨rfl, -⟩ := Prod.mk.inj hr2
    exact hb _ e hs
/-- Bytes behind the frames, opened. -/
theorem SpoI.junk (h : SpoI i s m rs es) (hi : i ≤ 10) (l : List UInt8) (hl : l.length ≤ 100) :
    ∃ s1 s2, s.append (nmM m.num) ([255, 255, 255, 255] ++ l) = (s1, 0) ∧ GoodO 300000 s1 ∧ openM s1 = (s2, 0, ⟨m.v.next.toNat, m.v.up⟩) ∧ SpoI (i + 1) s2 ⟨m.v.next.toNat, m.v.up⟩ [putE (wholeE m.v.up)] [wholeE m.v.up] := by
  have hf := h.few
  have hn := h.next
  have hlen := h.len
  obtain ⟨a1, a2, a3⟩ := append_calm h.man.calm ([255, 255, 255, 255] ++ l) h.man.file
  have hup : RightV m.v.up := up_right h.man.right (by omega)
  have hlu : m.v.up.ts.length ≤ 10000 := by show m.v.ts.length ≤ _; omega
  have hw := wholeB_small hup hlu
  have eu : m.v.up.ts.length = m.v.ts.length := rfl
  rw [eu] at hw
  generalize hs1 : (s.append (nmM m.num) ([255, 255, 255, 255] ++ l)).1 = s1 at a2 a3
  have hc1 : s1.look curN = some (nmM m.num) := by rw [a3]; show (if curN = nmM m.num then _ else _) = _; rw [if_neg (fun e => nmM_cur _ e.symm)]; exact h.man.cur
  have hf1 : s1.look (nmM m.num) = some (frames rs ++ ([255, 255, 255, 255] ++ l)) := by rw [a3]; show (if nmM m.num = nmM m.num then _ else _) = _; rw [if_pos rfl]
  have hr1 : ∀ nm, nm ≠ curN → nm ≠ nmM m.num → s1.look nm = none := fun nm q1 q2 => by rw [a3]; show (if nm = nmM m.num then _ else _) = _; rw [if_neg q2]; exact h.man.rest nm q1 q2
  obtain ⟨o1, o2⟩ := open_junk (rs := rs) (m := m) a2 h.man.num hc1 _ (cutF_ff l) (by simp) hf1 hr1 h.man.make h.man.few h.man.right h.man.stand (by omega) (by omega) h.man.next
  refine ⟨s1, (openM s1).1, Prod.ext hs1 a1, ?_, Prod.ext rfl o1, o2, EdsC.one hup hlu, ?_, ?_, ?_, ?_, ?_⟩
  · refine goodO_look a2 (Nat.le_trans start_len (by decide)) hc1 (show (9 : Nat) ≤ _ by omega) fun b hb _ => ?_
    obtain rfl := Option.some.inj (hf1.symm.trans hb)
    refine goodB_eds h.eds (by have := h.adds; omega) (by have := h.num; omega) _ (cutF_ff l) (by simp; omega) fun v hv => ?_
    rw [h.man.make] at hv
    obtain rfl := Option.some.inj hv
    exact ⟨by omega, by omega⟩
  · show m.v.ts.length + 0 ≤ _; omega
  · show 1 ≤ _; omega
  · show m.v.ts.length ≤ _; omega
  · show m.v.next + 1 ≤ _; omega
  · exact Nat.le_trans hw (by omega)
theorem open_bad (h : Calm s) {nm : Nm} (hc : s.look curN = some nm) (hb : numM nm = none ∨ s.look nm = none) : openM s = (s.syncDir.1, 15, ⟨0, Vr.zero⟩) := by
  obtain ⟨d1, d2, d3⟩ := syncDir_calm h
  have e : openM s = loadM s nm ⟨0, Vr.zero⟩ := by
    unfold openM
    rw [read_some h hc]
    simp
  rw [e]
  unfold loadM
  simp only
  rw [if_neg (by rw [d1]; simp)]
  rcases hb with hb | hb
  · rw [hb]
  · cases numM nm with
    | none => rfl
    | some num =>
      simp only
      rw [read_none d2 ((d3 _).trans hb), if_pos (by simp)]
/-- CURRENT is written anew, and opened twice. -/
theorem SpoI.cur (h : SpoI i s m rs es) (hi : i ≤ 11) (name : List UInt8) (hl : name.length ≤ 100) :
    ∃ s3 s4 s5 s6 s7 er m6, s.remove curN = (s3, 0) ∧ s3.create curN = (s4, 0) ∧ s4.append curN name = (s5, 0) ∧ GoodO 300000 s5 ∧ openM s5 = (s6, er, m6) ∧ GoodO 300000 s6 ∧ openM s6 = (s7, er, m6) ∧ (er = 0 → m6.v.ts.length ≤ 10000) ∧ (name ≠ nmM m.num → er = 15) := by
  have hf := h.few
  have hn := h.next
  have hlen := h.len
  have hK : (wholeB vStart).length ≤ 300000 := Nat.le_trans start_len (by decide)
  have hup : RightV m.v.up := up_right h.man.right (by omega)
  have hw := wholeB_small hup (show m.v.ts.length ≤ 10000 by omega)
  have eu : m.v.up.ts.length = m.v.ts.length := rfl
  rw [eu] at hw
  obtain ⟨a1, a2, a3⟩ := remove_calm h.man.calm cur_nm h.man.cur
  generalize hs3 : (s.remove curN).1 = s3 at a2 a3
  obtain ⟨b1, b2, b3⟩ := create_calm a2 cur_nm (by rw [a3]; exact if_pos rfl)
  generalize hs4 : (s3.create curN).1 = s4 at b2 b3
  obtain ⟨c1, c2, c3⟩ := append_calm b2 name (show s4.look curN = some [] by rw [b3]; exact if_pos rfl)
  generalize hs5 : (s4.append curN name).1 = s5 at c2 c3
  have hcur : s5.look curN = some name := by rw [c3]; exact if_pos rfl
  have hoth : ∀ n, n ≠ curN → s5.look n = s.look n := fun n q => by
    rw [c3]
    show (if n = curN then _ else s4.look n) = _
    rw [if_neg q, b3]
    show (if n = curN then _ else s3.look n) = _
    rw [if_neg q, a3]
    show (if n = curN then _ else s.look n) = _
    rw [if_neg q]
  have hGB : ∀ b, s.look (nmM m.num) = some b → GoodB 300000 b := fun b hb => by
    obtain rfl := Option.some.inj (h.man.file.symm.trans hb)
    have := goodB_eds (K := 300000) h.eds (by have := h.adds; omega) (by have := h.num; omega) [] cutF_nil (by simp; omega) (fun v hv => by
      rw [h.man.make] at hv
      obtain rfl := Option.some.inj hv
      exact ⟨by omega, by omega⟩)
    rwa [List.append_nil] at this
  have hG : ∀ s' : St, Calm s' → (∀ n, s'.look n = s5.look n) → GoodO 300000 s' := fun s' hs' he => by
    refine goodO_look hs' hK ((he _).trans hcur) (by omega) fun b hb hnm => ?_
    by_cases q : name = curN
    · rw [q, show numM curN = none by decide] at hnm
      cases hnm
    · rw [he, hoth _ q] at hb
      by_cases q2 : name = nmM m.num
      · rw [q2] at hb; exact hGB b hb
      · rw [h.man.rest _ q q2] at hb; cases hb
  by_cases q2 : name = nmM m.num
  · have hM : ManiC s5 m rs := ⟨c2, h.man.num, hcur.trans (by rw [q2]), (hoth _ (nmM_cur _)).trans h.man.file, fun n g1 g2 => (hoth n g1).trans (h.man.rest n g1 g2), h.man.make, h.man.few, h.man.right, h.man.stand, h.man.next⟩
    obtain ⟨o1, o2⟩ := open_same hM
    obtain ⟨o3, o4⟩ := open_same o2
    exact ⟨s3, s4, s5, (openM s5).1, _, 0, m, Prod.ext hs3 a1, Prod.ext hs4 b1, Prod.ext hs5 c1, hG s5 c2 (fun _ => rfl), Prod.ext rfl o1, goodO_calm hK o2 h.eds (by have := h.adds; omega) (by have := h.num; omega) (by omega) (by omega) (by omega), Prod.ext rfl o3, fun _ => by omega, fun x => absurd q2 x⟩
  · have hbad : ∀ s' : St, (∀ n, s'.look n = s5.look n) → numM name = none ∨ s'.look name = none := fun s' he => by
      by_cases q : name = curN
      · rw [q]; exact .inl (by decide)
      · right
        rw [he, hoth _ q]
        exact h.man.rest _ q q2
    obtain ⟨d1, d2, d3⟩ := syncDir_calm c2
    have o1 := open_bad c2 hcur (hbad s5 fun _ => rfl)
    have o2 := open_bad d2 ((d3 _).trans hcur) (hbad _ d3)
    exact ⟨s3, s4, s5, _, _, 15, _, Prod.ext hs3 a1, Prod.ext hs4 b1, Prod.ext hs5 c1, hG s5 c2 (fun _ => rfl), o1, hG _ d2 d3, o2, fun x => absurd x (by decide), fun _ => rfl⟩
end
end Go.Proofs.YtlecffpjcjlabaaGreat
