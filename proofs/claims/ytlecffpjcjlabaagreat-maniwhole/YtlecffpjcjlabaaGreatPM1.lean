/- mani, plain: what is opened, what an edit does; on calm files (P13A P13B). -/
import Derived.Test.YtlecffpjcjlabaaGreatP13S
import Derived.Test.YtlecffpjcjlabaaGreatXC2
import Derived.Test.YtlecffpjcjlabaaGreatJM
import Derived.Test.YtlecffpjcjlabaaGreatJLM
import Derived.Test.YtlecffpjcjlabaaGreatJ6
import Derived.Test.YtlecffpjcjlabaaGreatPV
namespace Go.Proofs.YtlecffpjcjlabaaGreat
open Go.RowKit

def wholeB (v : Vr) : List UInt8 := frames [putE (wholeE v)]
/-- A manifest: its file's number, and its version. -/
structure Mf where
  num : Nat
  v : Vr
def Vr.up (v : Vr) : Vr := ⟨v.log, v.next + 1, v.seq, v.ts⟩
def layV (s : St) (num : Nat) (v : Vr) (m : Mf) : St × Int × Mf :=
  let r := layM s (nmM num) (wholeB v)
  (r.1, r.2, if r.2 = 0 then ⟨num, v⟩ else m)
def anewM (s : St) (m : Mf) (v : Vr) : St × Int × Mf :=
  if 100000000 ≤ v.next then (s, 21, m) else
  let r := layV s v.next.toNat v.up m
  if r.2.1 = 0 then (if (m.num : Int) = v.next then r.1 else (r.1.remove (nmM m.num)).1, 0, r.2.2) else r
/-- Does an edit make a right version? -/
def appliesB (v : Vr) (e : Ed) : Bool := e.drop.all (there v.ts) && lookB (nextV v e)
theorem appliesB_iff {v : Vr} {e : Ed} : appliesB v e = true ↔ Applies v e := by
  unfold appliesB Applies
  rw [Bool.and_eq_true, List.all_eq_true, lookB_iff, look_iff _ (next_stands v e)]
/-- The version that the edits of these bytes make. -/
def replayN : Vr → List (List UInt8) → Option Vr
  | v, [] => some v
  | v, r :: rs => if (getP r).2 = 0 ∧ appliesB v (getP r).1 = true then replayN (nextV v (getP r).1) rs else none
def replayM (rs : List (List UInt8)) : Option Vr := if rs = [] then none else replayN Vr.zero rs
def loadM (s : St) (name : Nm) (m : Mf) : St × Int × Mf :=
  let d := s.syncDir
  if d.2 ≠ 0 then (d.1, d.2, m) else
  match numM name with
  | none => (d.1, 15, m)
  | some num => if (d.1.read name).2 ≠ 0 then (d.1, 15, m) else
    match replayM (scanF (d.1.read name).1).1 with
    | none => (d.1, 15, m)
    | some v => if (scanF (d.1.read name).1).2 < (d.1.read name).1.length then anewM d.1 ⟨num, v⟩ v else ((d.1.sync name).1, (d.1.sync name).2, ⟨num, v⟩)
def vStart : Vr := ⟨2, 2, 0, []⟩
def openM (s : St) : St × Int × Mf :=
  let c := s.read curN
  if c.2 = 0 then loadM s c.1 ⟨0, Vr.zero⟩ else if c.2 = 7 then layV s 1 vStart ⟨0, Vr.zero⟩ else (s, c.2, ⟨0, Vr.zero⟩)
def addOn (s : St) (m : Mf) (e : Ed) : St × Int × Mf :=
  let r := seqS (s.append (nmM m.num) (frames [putE e])) fun s => s.sync (nmM m.num)
  if r.2 ≠ 0 then (r.1, r.2, m) else
  let c := r.1.read (nmM m.num)
  if c.2 ≠ 0 ∨ c.1.length ≤ 20000 then (r.1, c.2, ⟨m.num, nextV m.v e⟩) else anewM r.1 ⟨m.num, nextV m.v e⟩ (nextV m.v e)
def addM (s : St) (m : Mf) (br : Bool) (e : Ed) : St × Int × Mf × Bool :=
  if br then (s, 17, m, br) else if canB e = false then (s, 1, m, false) else if appliesB m.v e = false then (s, 4, m, false) else
  ((addOn s m e).1, (addOn s m e).2.1, (addOn s m e).2.2, decide ((addOn s m e).2.1 ≠ 0))
end Go.Proofs.YtlecffpjcjlabaaGreat

namespace Go.Proofs.YtlecffpjcjlabaaGreat

theorem Told.seq {r : St × Int} {f k : Nm → Option (List UInt8)} {g : St → St × Int} (h : Told r f) (hg : ∀ s, Calm s → (∀ m, s.look m = f m) → Told (g s) k) : Told (seqS r g) k := by
  rw [seqS_yes h.1]
  exact hg _ h.2.1 h.2.2
theorem Told.of {r : St × Int} {f k : Nm → Option (List UInt8)} (h : Told r f) (e : ∀ m, f m = k m) : Told r k := ⟨h.1, h.2.1, fun m => (h.2.2 m).trans (e m)⟩
section
variable {s : St}
theorem away_calm (h : Calm s) {n : Nm} (hn : isNm n = true) : Told (awayM s n) fun m => if m = n then none else s.look m := by
  unfold awayM
  cases e : s.look n with
  | none =>
    rw [read_none h e, if_neg (by decide)]
    refine ⟨rfl, h, fun m => ?_⟩
    show s.look m = if m = n then none else s.look m
    by_cases hm : m = n
    · rw [if_pos hm, hm]; exact e
    · rw [if_neg hm]
  | some b =>
    rw [read_some h e, if_pos rfl]
    exact remove_calm h hn e
theorem replace_calm (h : Calm s) {n : Nm} (hn : isNm n = true) (b : List UInt8) : Told (replaceM s n b) fun m => if m = n then some b else s.look m := by
  unfold replaceM
  refine (away_calm h hn).seq fun s1 h1 l1 => ?_
  refine (create_calm h1 hn (by rw [l1, if_pos rfl])).seq fun s2 h2 l2 => ?_
  refine (append_calm h2 b (show s2.look n = some [] by rw [l2, if_pos rfl])).seq fun s3 h3 l3 => ?_
  refine (sync_calm h3 (b := b) (by rw [l3, if_pos rfl]; rfl)).of fun m => ?_
  rw [l3]
  by_cases hm : m = n
  · rw [if_pos hm, if_pos hm]; rfl
  · rw [if_neg hm, if_neg hm, l2, if_neg hm, l1, if_neg hm]
theorem com_nm : isNm comN = true := by decide
theorem cur_nm : isNm curN = true := by decide
theorem com_cur : comN ≠ curN := by decide
theorem switch_calm (h : Calm s) (nm : Nm) : Told (switchM s nm) fun m => if m = curN then some nm else if m = comN then none else s.look m := by
  unfold switchM
  refine (replace_calm h com_nm nm).seq fun s1 h1 l1 => ?_
  refine (rename_calm h1 com_nm cur_nm com_cur (show s1.look comN = some nm by rw [l1, if_pos rfl])).seq fun s2 h2 l2 => ?_
  refine (syncDir_calm h2).of fun m => ?_
  rw [l2]
  by_cases hm : m = curN
  · rw [if_pos hm, if_pos hm]
  · rw [if_neg hm, if_neg hm]
    by_cases hc : m = comN
    · rw [if_pos hc, if_pos hc]
    · rw [if_neg hc, if_neg hc, l1, if_neg hc]
theorem lay_calm (h : Calm s) {n : Nm} (hn : isNm n = true) (b : List UInt8) : Told (layM s n b) fun m => if m = curN then some n else if m = comN then none else if m = n then some b else s.look m := by
  unfold layM
  refine (replace_calm h hn b).seq fun s1 k1 l1 => ?_
  refine (syncDir_calm k1).seq fun s2 k2 l2 => ?_
  refine (switch_calm k2 n).of fun m => ?_
  rw [l2, l1]
end
theorem scan_app : ∀ (rs : List (List UInt8)) (j : List UInt8), (∀ r ∈ rs, r.length ≤ 16777216) → cutF j = none → scanF (frames rs ++ j) = (rs, (frames rs).length)
  | [], j, _, hj => by simpa [frames] using scanF_none hj
  | r :: rs, j, h, hj => by
    have hc : cutF (frames (r :: rs) ++ j) = some r := by rw [frames_cons, List.append_assoc]; exact cutF_of r _ (h r (by simp))
    rw [scanF_some hc]
    have e : (frames (r :: rs) ++ j).drop (8 + r.length) = frames rs ++ j := by
      rw [frames_cons, List.append_assoc, ← frm_length r, List.drop_left]
    rw [e, scan_app rs j (fun x hx => h x (by simp [hx])) hj]
    simp only [frames_cons, List.length_append, frm_length]
theorem cutF_nil : cutF [] = none := by simp [cutF]
theorem scan_all (rs : List (List UInt8)) (h : ∀ r ∈ rs, r.length ≤ 16777216) : scanF (frames rs) = (rs, (frames rs).length) := by
  have := scan_app rs [] h cutF_nil
  rwa [List.append_nil] at this
theorem replayN_snoc : ∀ (rs : List (List UInt8)) (v : Vr) (r : List UInt8), replayN v (rs ++ [r]) = match replayN v rs with | some u => replayN u [r] | none => none
  | [], v, r => rfl
  | x :: rs, v, r => by
    have ih := replayN_snoc rs (nextV v (getP x).1) r
    rw [List.cons_append]
    unfold replayN
    split
    · exact ih
    · rfl
theorem replayN_one {v : Vr} {e : Ed} (he : e.Fits) (ha : Applies v e) : replayN v [putE e] = some (nextV v e) := by
  unfold replayN
  rw [getP_laid e he, if_pos ⟨rfl, appliesB_iff.2 ha⟩]
  rfl
theorem replayM_some {rs : List (List UInt8)} {v : Vr} (h : replayM rs = some v) : rs ≠ [] ∧ replayN Vr.zero rs = some v := by
  unfold replayM at h
  split at h
  · cases h
  · exact ⟨by assumption, h⟩
theorem replayM_of {rs : List (List UInt8)} {v : Vr} (h : rs ≠ []) (k : replayN Vr.zero rs = some v) : replayM rs = some v := by
  unfold replayM
  rw [if_neg h]
  exact k
theorem replayM_more {rs : List (List UInt8)} {v : Vr} {e : Ed} (h : replayM rs = some v) (he : e.Fits) (ha : Applies v e) : replayM (rs ++ [putE e]) = some (nextV v e) := by
  obtain ⟨h1, h2⟩ := replayM_some h
  refine replayM_of (by simp) ?_
  rw [replayN_snoc, h2]
  exact replayN_one he ha
theorem replayM_whole {v : Vr} (h : RightV v) (hs : Stands v.ts) (hl : v.ts.length ≤ 10000) : replayM [putE (wholeE v)] = some v := by
  refine replayM_of (by simp) ?_
  rw [replayN_one (whole_fits h hl) (applies_whole h hs), next_whole h hs]
theorem putT_len3 (t : Tb) (h : t.Fits) : (putT t).length ≤ 660 := by
  obtain ⟨h1, h2, h3, h4, h5, h6, h7, h8⟩ := h
  unfold putT
  rw [List.length_append]
  have a := three_vars t.n.toNat t.lv.toNat t.sz.toNat (by omega) (by omega) (by omega)
  have b := ntexts_length [t.f, t.l] (fun s hs => by simp at hs; unfold maxLen; rcases hs with rfl | rfl <;> omega)
  simp [ntotal] at b
  omega
theorem putTs_len3 : ∀ ts : List Tb, (∀ t ∈ ts, t.Fits) → (putTs ts).length ≤ ts.length * 660
  | [], _ => by simp [putTs]
  | t :: ts, h => by
    have h1 := putTs_len3 ts (fun x hx => h x (List.mem_cons_of_mem _ hx))
    have h2 := putT_len3 t (h t (by simp))
    have e : putTs (t :: ts) = putT t ++ putTs ts := by simp [putTs]
    rw [e, List.length_append, List.length_cons, Nat.add_mul]
    omega
theorem putE_len3 (e : Ed) (h : e.Fits) : (putE e).length ≤ 50 + e.add.length * 660 + e.drop.length * 10 := by
  obtain ⟨h1, h2, h3, h4, h5, h6, h7, h8, h9⟩ := h
  have a := three_vars e.log.toNat e.next.toNat e.seq (by omega) (by omega) h5
  have b := putTs_len3 e.add h8
  have c := putI_len e.drop (fun k hk => by have := h9 k hk; omega)
  have d1 := one_vars e.add.length (by omega)
  have d2 := one_vars e.drop.length (by omega)
  unfold putE
  simp only [List.length_append]
  omega
theorem putE_small {e : Ed} (h : e.Fits) : (putE e).length ≤ 16777216 := by
  have := putE_len3 e h
  obtain ⟨h1, h2, h3, h4, h5, h6, h7, h8, h9⟩ := h
  omega
theorem next_add_mem {v : Vr} {e : Ed} {t : Tb} (h : t ∈ e.add) : t ∈ (nextV v e).ts := by
  unfold nextV
  simp only
  exact (ordT_both _).1.mem_iff.2 (List.mem_append_right _ h)
/-- An edit that may be laid and applied to a right version may be read. -/
theorem fits_of {v : Vr} {e : Ed} (hv : RightV v) (hc : canB e = true) (ha : Applies v e) (h1 : e.add.length ≤ 10000) (h2 : e.drop.length ≤ 10000) : e.Fits := by
  unfold canB at hc
  rw [Bool.and_eq_true, decide_eq_true_iff] at hc
  obtain ⟨⟨hl, hn⟩, -⟩ := hc
  obtain ⟨hd, ⟨hb, ht, -⟩⟩ := ha
  have e1 : (nextV v e).log = max v.log e.log := rfl
  have e2 : (nextV v e).next = max v.next e.next := rfl
  have e3 : (nextV v e).seq = max v.seq e.seq := rfl
  rw [e1, e2, e3] at hb
  refine ⟨hl, by omega, hn, by omega, by omega, h1, h2, fun t hh => (ht t (next_add_mem hh)).fits (by rw [e2]; omega), fun k hk => ?_⟩
  obtain ⟨t, hm, rfl⟩ := there_iff.1 (hd k hk)
  have := hv.2.1 t hm
  have h3 := hv.1
  unfold TabOk at this
  omega
theorem up_right {v : Vr} (h : RightV v) (hn : v.next < 100000000) : RightV v.up := by
  obtain ⟨⟨h1, h2, h3, h4, h5⟩, ht, hp⟩ := h
  refine ⟨⟨h1, h2, by show 0 ≤ v.next + 1; omega, by show v.next + 1 ≤ _; omega, h5⟩, fun t hh => ?_, hp⟩
  have := ht t hh
  unfold TabOk at this ⊢
  show 0 ≤ t.n ∧ t.n ≤ v.next + 1 - 1 ∧ _
  omega
theorem vStart_right : RightV vStart ∧ Stands vStart.ts := ⟨⟨by unfold vStart; decide, (fun t h => by cases h), List.Pairwise.nil⟩, List.Pairwise.nil⟩
theorem nmM_nm (k : Nat) : isNm (nmM k) = true := rfl
theorem nmM_cur (k : Nat) : nmM k ≠ curN := by unfold nmM curN; simp
theorem nmM_com (k : Nat) : nmM k ≠ comN := by unfold nmM comN; simp
/-- A manifest on calm files: CURRENT names the one file of edits, which makes the version. -/
structure ManiC (s : St) (m : Mf) (rs : List (List UInt8)) : Prop where
  calm : Calm s
  num : m.num < 100000000
  cur : s.look curN = some (nmM m.num)
  file : s.look (nmM m.num) = some (frames rs)
  rest : ∀ nm, nm ≠ curN → nm ≠ nmM m.num → s.look nm = none
  make : replayM rs = some m.v
  few : ∀ r ∈ rs, r.length ≤ 16777216
  right : RightV m.v
  stand : Stands m.v.ts
  next : (m.num : Int) < m.v.next
section
variable {s : St} {m : Mf} {rs : List (List UInt8)}
theorem layV_calm (h : Calm s) (num : Nat) (v : Vr) : (layV s num v m).2 = (0, ⟨num, v⟩) ∧ Calm (layV s num v m).1 ∧ ∀ n, (layV s num v m).1.look n = if n = curN then some (nmM num) else if n = comN then none else if n = nmM num then some (wholeB v) else s.look n := by
  obtain ⟨h1, h2, h3⟩ := lay_calm h (nmM_nm num) (wholeB v)
  unfold layV
  simp only
  rw [if_pos h1, h1]
  exact ⟨rfl, h2, h3⟩
/-- A new one. -/
theorem open_new (h : Calm s) (hr : ∀ n, s.look n = none) : (openM s).2 = (0, ⟨1, vStart⟩) ∧ ManiC (openM s).1 ⟨1, vStart⟩ [putE (wholeE vStart)] := by
  have e : openM s = layV s 1 vStart ⟨0, Vr.zero⟩ := by
    unfold openM
    rw [read_none h (hr curN)]
    simp
  rw [e]
  obtain ⟨h1, h2, h3⟩ := layV_calm (m := ⟨0, Vr.zero⟩) h 1 vStart
  refine ⟨h1, h2, by show 1 < _; omega, ?_, ?_, fun n hn1 hn2 => ?_, replayM_whole vStart_right.1 vStart_right.2 (by decide), fun r hr' => ?_, vStart_right.1, vStart_right.2, by decide⟩
  · rw [h3, if_pos rfl]
  · rw [h3, if_neg (nmM_cur 1), if_neg (nmM_com 1), if_pos rfl]; rfl
  · rw [h3, if_neg hn1, if_neg hn2]
    split
    · rfl
    · exact hr n
  · rw [List.mem_singleton.1 hr']
    exact putE_small (whole_fits vStart_right.1 (by decide))
/-- Laid anew. -/
theorem anew_calm (h : Calm s) (hn : m.num < 100000000) (v : Vr) (hv : RightV v) (hs : Stands v.ts) (hl : v.ts.length ≤ 10000) (hnx : v.next < 100000000) (hnm : (m.num : Int) < v.next) {b : List UInt8} (hb : s.look (nmM m.num) = some b)
    (hr : ∀ nm, nm ≠ curN → nm ≠ nmM m.num → s.look nm = none) :
    (anewM s m v).2 = (0, ⟨v.next.toNat, v.up⟩) ∧ ManiC (anewM s m v).1 ⟨v.next.toNat, v.up⟩ [putE (wholeE v.up)] := by
  have h0 := hv.1
  obtain ⟨h1, h2, h3⟩ := layV_calm (m := m) h v.next.toNat v.up
  have hne : nmM m.num ≠ nmM v.next.toNat := fun e => by have := nmM_inj hn (by omega) e; omega
  have hold : (layV s v.next.toNat v.up m).1.look (nmM m.num) = some b := by rw [h3, if_neg (nmM_cur _), if_neg (nmM_com _), if_neg hne, hb]
  obtain ⟨r1, r2, r3⟩ := remove_calm h2 (nmM_nm m.num) hold
  have e : anewM s m v = (((layV s v.next.toNat v.up m).1.remove (nmM m.num)).1, 0, ⟨v.next.toNat, v.up⟩) := by
    unfold anewM
    rw [if_neg (by omega)]
    simp only
    rw [h1, if_pos rfl, if_neg (by omega)]
  rw [e]
  refine ⟨rfl, r2, by show v.next.toNat < _; omega, ?_, ?_, fun n hn1 hn2 => ?_, replayM_whole (up_right hv hnx) hs hl, fun r hr' => ?_, up_right hv hnx, hs, by show ((v.next.toNat : Nat) : Int) < v.next + 1; omega⟩
  · rw [r3]
    show (if curN = nmM m.num then none else _) = _
    rw [if_neg (fun e => nmM_cur _ e.symm), h3, if_pos rfl]
  · rw [r3]
    show (if nmM v.next.toNat = nmM m.num then none else (layV s v.next.toNat v.up m).1.look (nmM v.next.toNat)) = _
    rw [if_neg (fun e => hne e.symm), h3, if_neg (nmM_cur _), if_neg (nmM_com _), if_pos rfl]; rfl
  · rw [r3]
    show (if n = nmM m.num then none else (layV s v.next.toNat v.up m).1.look n) = none
    split
    · rfl
    · rename_i hno
      rw [h3, if_neg hn1, if_neg hn2]
      split
      · rfl
      · exact hr n hn1 hno
  · rw [List.mem_singleton.1 hr']
    exact putE_small (whole_fits (up_right hv hnx) hl)
theorem load_cur (h : Calm s) {k : Nat} (hk : s.look curN = some (nmM k)) : openM s = loadM s (nmM k) ⟨0, Vr.zero⟩ := by
  unfold openM
  rw [read_some h hk]
  simp
/-- Opened again. -/
theorem open_same (h : ManiC s m rs) : (openM s).2 = (0, m) ∧ ManiC (openM s).1 m rs := by
  rw [load_cur h.calm h.cur]
  obtain ⟨d1, d2, d3⟩ := syncDir_calm h.calm
  have hf : s.syncDir.1.look (nmM m.num) = some (frames rs) := by rw [d3]; exact h.file
  obtain ⟨y1, y2, y3⟩ := sync_calm d2 hf
  have e : loadM s (nmM m.num) ⟨0, Vr.zero⟩ = ((s.syncDir.1.sync (nmM m.num)).1, (s.syncDir.1.sync (nmM m.num)).2, m) := by
    unfold loadM
    simp only
    rw [if_neg (by rw [d1]; simp), numM_of _ h.num]
    simp only
    rw [read_some d2 hf]
    simp only
    rw [if_neg (by simp), scan_all rs h.few]
    simp only
    rw [h.make]
    simp only
    rw [if_neg (Nat.lt_irrefl _)]
  rw [e, y1]
  have hq : ∀ n, (s.syncDir.1.sync (nmM m.num)).1.look n = s.look n := fun n => (y3 n).trans (d3 n)
  exact ⟨rfl, y2, h.num, (hq _).trans h.cur, (hq _).trans h.file, fun n h1 h2 => (hq n).trans (h.rest n h1 h2), h.make, h.few, h.right, h.stand, h.next⟩
/-- Opened with bytes behind its frames. -/
theorem open_junk (h : Calm s) (hn : m.num < 100000000) (hc : s.look curN = some (nmM m.num)) (j : List UInt8) (hj : cutF j = none) (hj0 : j ≠ []) (hf : s.look (nmM m.num) = some (frames rs ++ j)) (hr : ∀ nm, nm ≠ curN → nm ≠ nmM m.num → s.look nm = none)
    (hm : replayM rs = some m.v) (hfew : ∀ r ∈ rs, r.length ≤ 16777216) (hv : RightV m.v) (hs : Stands m.v.ts) (hl : m.v.ts.length ≤ 10000) (hnx : m.v.next < 100000000) (hnm : (m.num : Int) < m.v.next) :
    (openM s).2 = (0, ⟨m.v.next.toNat, m.v.up⟩) ∧ ManiC (openM s).1 ⟨m.v.next.toNat, m.v.up⟩ [putE (wholeE m.v.up)] := by
  rw [load_cur h hc]
  obtain ⟨d1, d2, d3⟩ := syncDir_calm h
  have hf' : s.syncDir.1.look (nmM m.num) = some (frames rs ++ j) := by rw [d3]; exact hf
  have e : loadM s (nmM m.num) ⟨0, Vr.zero⟩ = anewM s.syncDir.1 m m.v := by
    unfold loadM
    simp only
    rw [if_neg (by rw [d1]; simp), numM_of _ hn]
    simp only
    rw [read_some d2 hf']
    simp only
    rw [if_neg (by simp), scan_app rs j hfew hj]
    simp only
    rw [hm]
    simp only
    rw [if_pos (by rw [List.length_append]; have := List.length_pos_iff.2 hj0; omega)]
  rw [e]
  exact anew_calm d2 hn m.v hv hs hl hnx hnm hf' (fun n h1 h2 => (d3 n).trans (hr n h1 h2))
/-- An edit more. -/
theorem add_calm (h : ManiC s m rs) {e : Ed} (hc : canB e = true) (ha : Applies m.v e) (h1 : e.add.length ≤ 10000) (h2 : e.drop.length ≤ 10000) (hl : (nextV m.v e).ts.length ≤ 10000) (hnx : (nextV m.v e).next < 100000000) :
    (addM s m false e).2.1 = 0 ∧ (addM s m false e).2.2.2 = false ∧
      ((frames (rs ++ [putE e])).length ≤ 20000 ∧ (addM s m false e).2.2.1 = ⟨m.num, nextV m.v e⟩ ∧ ManiC (addM s m false e).1 ⟨m.num, nextV m.v e⟩ (rs ++ [putE e]) ∨
       20000 < (frames (rs ++ [putE e])).length ∧ (addM s m false e).2.2.1 = ⟨(nextV m.v e).next.toNat, (nextV m.v e).up⟩ ∧ ManiC (addM s m false e).1 ⟨(nextV m.v e).next.toNat, (nextV m.v e).up⟩ [putE (wholeE (nextV m.v e).up)]) := by
  have hfit := fits_of h.right hc ha h1 h2
  obtain ⟨a1, a2, a3⟩ := append_calm h.calm (frames [putE e]) h.file
  have hf1 : (s.append (nmM m.num) (frames [putE e])).1.look (nmM m.num) = some (frames (rs ++ [putE e])) := by
    rw [a3]
    show (if nmM m.num = nmM m.num then _ else _) = _
    rw [if_pos rfl, frames_append]
  obtain ⟨y1, y2, y3⟩ := sync_calm a2 hf1
  obtain ⟨s2, hs2⟩ : ∃ s2, ((s.append (nmM m.num) (frames [putE e])).1.sync (nmM m.num)).1 = s2 := ⟨_, rfl⟩
  rw [hs2] at y2 y3
  have hq : ∀ n, s2.look n = if n = nmM m.num then some (frames (rs ++ [putE e])) else s.look n := fun n => by
    rw [y3, a3, frames_append]
  have hseq : seqS (s.append (nmM m.num) (frames [putE e])) (fun s => s.sync (nmM m.num)) = (s2, 0) := by
    rw [seqS_yes a1, ← hs2, ← y1]
  have hf2 : s2.look (nmM m.num) = some (frames (rs ++ [putE e])) := by rw [hq, if_pos rfl]
  have hon : addOn s m e = if (frames (rs ++ [putE e])).length ≤ 20000 then (s2, 0, ⟨m.num, nextV m.v e⟩) else anewM s2 ⟨m.num, nextV m.v e⟩ (nextV m.v e) := by
    unfold addOn
    simp only
    rw [hseq]
    simp only
    rw [if_neg (by simp), read_some y2 hf2]
    simp
  have hadd : addM s m false e = ((addOn s m e).1, (addOn s m e).2.1, (addOn s m e).2.2, decide ((addOn s m e).2.1 ≠ 0)) := by
    unfold addM
    rw [if_neg (by simp), if_neg (by rw [hc]; simp), if_neg (by rw [appliesB_iff.2 ha]; simp)]
  have hrest : ∀ n, n ≠ curN → n ≠ nmM m.num → s2.look n = none := fun n g1 g2 => by rw [hq, if_neg g2]; exact h.rest n g1 g2
  have hnum : (m.num : Int) < (nextV m.v e).next := by have := h.next; show (m.num : Int) < max m.v.next e.next; omega
  rw [hadd, hon]
  by_cases hsz : (frames (rs ++ [putE e])).length ≤ 20000
  · rw [if_pos hsz]
    refine ⟨rfl, rfl, .inl ⟨hsz, rfl, y2, h.num, ?_, hf2, hrest, replayM_more h.make hfit ha, fun r hr => ?_, ha.2, next_stands _ _, hnum⟩⟩
    · rw [hq, if_neg (fun x => nmM_cur _ x.symm)]; exact h.cur
    · rcases List.mem_append.1 hr with hr | hr
      · exact h.few r hr
      · rw [List.mem_singleton.1 hr]; exact putE_small hfit
  · rw [if_neg hsz]
    obtain ⟨r1, r2⟩ := anew_calm (m := ⟨m.num, nextV m.v e⟩) y2 h.num (nextV m.v e) ha.2 (next_stands _ _) hl hnx hnum hf2 hrest
    obtain ⟨r3, r4⟩ := Prod.mk.inj r1
    exact ⟨r3, by rw [r3]; rfl, .inr ⟨by omega, r4, r2⟩⟩
end
end Go.Proofs.YtlecffpjcjlabaaGreat
