/- mani: load, open, Open, Add, alive (I7 I8 I9 IA IB P13F IC). -/
import Derived.Test.YtlecffpjcjlabaaGreatIM2
namespace Go.Proofs.YtlecffpjcjlabaaGreat
open Go.RowKit Go.Shelf

section
variable {s s1 : St} {name : Nm} {m : Mf} {num : Nat} {b : List UInt8} {v : Vr}
theorem loadM_1 (h : s.syncDir.2 ≠ 0) : loadM s name m = (s.syncDir.1, s.syncDir.2, m) := by
  unfold loadM
  simp only
  rw [if_pos h]
theorem loadM_2 (d : s.syncDir = (s1, 0)) (hn : numM name = none) : loadM s name m = (s1, 15, m) := by
  unfold loadM
  simp only
  rw [d, if_neg (by simp), hn]
theorem loadM_3 (d : s.syncDir = (s1, 0)) (hn : numM name = some num) (hr : (s1.read name).2 ≠ 0) : loadM s name m = (s1, 15, m) := by
  unfold loadM
  simp only
  rw [d, if_neg (by simp), hn]
  simp only
  rw [if_pos hr]
theorem loadM_4 (d : s.syncDir = (s1, 0)) (hn : numM name = some num) (hr : s1.read name = (b, 0)) (hp : replayM (scanF b).1 = none) : loadM s name m = (s1, 15, m) := by
  unfold loadM
  simp only
  rw [d, if_neg (by simp), hn]
  simp only
  rw [hr, if_neg (by simp), hp]
theorem loadM_5 (d : s.syncDir = (s1, 0)) (hn : numM name = some num) (hr : s1.read name = (b, 0)) (hp : replayM (scanF b).1 = some v) (hl : (scanF b).2 < b.length) : loadM s name m = anewM s1 ⟨num, v⟩ v := by
  unfold loadM
  simp only
  rw [d, if_neg (by simp), hn]
  simp only
  rw [hr, if_neg (by simp), hp]
  simp only
  rw [if_pos hl]
theorem loadM_6 (d : s.syncDir = (s1, 0)) (hn : numM name = some num) (hr : s1.read name = (b, 0)) (hp : replayM (scanF b).1 = some v) (hl : ¬ (scanF b).2 < b.length) : loadM s name m = ((s1.sync name).1, (s1.sync name).2, ⟨num, v⟩) := by
  unfold loadM
  simp only
  rw [d, if_neg (by simp), hn]
  simp only
  rw [hr, if_neg (by simp), hp]
  simp only
  rw [if_neg hl]
theorem anewM_ts {m ma : Mf} {sa : St} (h : anewM s m v = (sa, 0, ma)) : ma.v.ts = v.ts := by
  unfold anewM layV at h
  split at h
  · have := (Prod.mk.inj (Prod.mk.inj h).2).1
    cases this
  · simp only at h
    split at h
    · rename_i hz
      have := (Prod.mk.inj (Prod.mk.inj h).2).2
      rw [← this]
      rfl
    · rename_i hz
      exact absurd (Prod.mk.inj (Prod.mk.inj h).2).1 hz
theorem replayN_right : ∀ (rs : List (List UInt8)) (v u : Vr), rs ≠ [] → replayN v rs = some u → RightV u ∧ Stands u.ts
  | [], _, _, h, _ => absurd rfl h
  | r :: rs, v, u, _, h => by
    rw [replayN_cons] at h
    split at h
    · rename_i hc
      by_cases he : rs = []
      · subst he
        obtain rfl := Option.some.inj h
        exact ⟨(appliesB_iff.1 hc.2).2, next_stands _ _⟩
      · exact replayN_right rs _ u he h
    · cases h
theorem replayM_right {rs : List (List UInt8)} {u : Vr} (h : replayM rs = some u) : RightV u ∧ Stands u.ts := by
  obtain ⟨h1, h2⟩ := replayM_some h
  exact replayN_right rs _ u h1 h2
end
/-- What is asked of the bytes of a file of edits: what they make is not too great. -/
structure GoodB (K : Nat) (b : List UInt8) : Prop where
  len : b.length ≤ 100000000
  fine : FineR (scanF b).1
  few : ∀ v, replayM (scanF b).1 = some v → v.ts.length ≤ 10000 ∧ (wholeB v.up).length ≤ K
section
variable {F : Nat → Prop} {B p n m : Nat} {s : St} {w : World}
/-- A row of tables that lies in the blocks Q: it stays as long as they do. -/
def RowQ (Q : Nat → Prop) (w : World) (vv : Value) (ts : List Tb) : Prop := ∀ w' : World, (∀ j, Q j → w'.heap[j]? = w.heap[j]?) → RowB w' vv ts
theorem RowQ.row {Q : Nat → Prop} {w : World} {vv : Value} {ts : List Tb} (h : RowQ Q w vv ts) : RowB w vv ts := h w fun _ _ => rfl
theorem RowQ.kept {Q : Nat → Prop} {w w' : World} {vv : Value} {ts : List Tb} (h : RowQ Q w vv ts) (hk : ∀ j, Q j → w'.heap[j]? = w.heap[j]?) : RowQ Q w' vv ts := fun w'' hw => h w'' fun j hj => (hw j hj).trans (hk j hj)
theorem rowQ_of {w : World} {vv : Value} {ts : List Tb} (h : RowB w vv ts) : RowQ (fun j => ob vv = some j ∧ j < w.heap.size) w vv ts := fun w' hw => by
  refine ⟨h.1, ?_⟩
  rcases h.2 with h1 | ⟨g, cap, cur, e, hg, h2⟩
  · exact .inl h1
  · refine .inr ⟨g, cap, cur, e, ?_, h2⟩
    rw [hw g ⟨by rw [e]; rfl, (Array.getElem?_eq_some_iff.1 hg).1⟩]
    exact hg
/-- A manifest whose tables lie in new blocks Q. -/
structure ManQ (F Q : Nat → Prop) (B p n m M : Nat) (s' : St) (mf : Mf) (vv : Value) (brk : Bool) (w w' : World) : Prop where
  hs : Hs (fun j => F j ∨ Q j) B p n m s' w'
  man : ManAt w' M p mf vv brk
  bel : Below B w w'
  kp : ∀ k, F k → k ≠ M → w'.heap[k]? = w.heap[k]?
  row : RowQ Q w' vv mf.v.ts
  new : ∀ j, Q j → w.heap.size ≤ j
/-- What load answers. -/
def LoadV (F : Nat → Prop) (B p n m M K : Nat) (sr : St) (er : Int) (mr : Mf) (brk : Bool) (w w' : World) : Prop :=
  (er ≠ 0 ∧ Hs F B p (n + 24) (m + K + 9) sr w' ∧ Below B w w' ∧ (∀ k, F k → k ≠ M → w'.heap[k]? = w.heap[k]?)) ∨
  (er = 0 ∧ ∃ a c Q, ManQ F Q B p (n + 24) (m + K + 9) M sr mr (.slice a mr.v.ts.length c) brk w w')
set_option maxHeartbeats 8000000 in
set_option maxRecDepth 100000 in
theorem mload_any (h : Hs F B p n m s w) (hN : n ≤ 50000) (hM : m ≤ 700000000) (M : Nat) (mf0 : Mf) (vv0 : Value) (brk : Bool) (hA : ManAt w M p mf0 vv0 brk) (hFM : F M) (hBM : B ≤ M) (NM : ByteArray) (hNs : NM.size ≤ 1000000000) (K : Nat)
    (hG : ∀ b, s.syncDir.1.read NM.data.toList = (b, 0) → (numM NM.data.toList).isSome = true → GoodB K b) (mx : Mf) (sr : St) (er : Int) (mr : Mf) (hr : loadM s NM.data.toList mx = (sr, er, mr)) :
    Calls Tryz.prog 171 #[.pointer (some ⟨M, 0, none⟩), .string NM] w fun e w' => e = .returned (.int .i64 er) ∧ LoadV F B p n m M K sr er mr brk w w' := by
  obtain ⟨name, hname⟩ : ∃ name, NM.data.toList = name := ⟨_, rfl⟩
  rw [hname] at hG hr
  have hNm : NM.size ≤ maxLen := by unfold maxLen; omega
  have CD := Lib.hid (hs_syncDir h (by omega))
  have CU := Lib.hid (fun W => mnumber_any NM W)
  rw [hname] at CU
  unfold mnumV at CU
  have HRD := Lib.hid (fun (W : World) (s : St) (h : Hs F B p (n + 1) m s W) => hs_read h NM hNm)
  rw [hname] at HRD
  have c0 := hA.c0
  have HA := Lib.hid hA
  have HR := Lib.hid hr
  have HBS := Lib.hid h.size
  have HLT := Lib.hid h.lt
  rcases hsd : s.syncDir with ⟨s1, e1⟩
  rw [hsd] at CD hG
  simp only at CD hG
  have HG := Lib.hid hG
  have HNM := Lib.hid hname
  clear h hA hG hr hname
  go_enter Tryz.func171, Tryz.ntmps171
  go_wp2_with fail
  go_at_call 62
  (with_reducible refine CD.out.mono ?_)
  rintro _ w1 ⟨rfl, h1, b1, k1⟩
  have FV1 := Lib.hid (show FsV F B p (n + 1) m s1 w w1 from ⟨h1, b1, k1⟩)
  clear h1 b1 k1 CD
  by_cases he : e1 = 0
  rotate_left
  · have heb : (e1 != 0) = true := by simpa using he
    have hq := HR.out
    rw [loadM_1 (by rw [hsd]; exact he), hsd] at hq
    obtain ⟨rfl, hq2⟩ := Prod.mk.inj hq
    obtain ⟨rfl, rfl⟩ := Prod.mk.inj hq2
    have HF := Lib.hid (show LoadV F B p n m M K s1 e1 mx brk w w1 from .inl ⟨he, FV1.out.hs.up (by omega) (by omega), FV1.out.2.1, fun k hk _ => FV1.out.2.2 k hk⟩)
    clear hq hq2 hsd HRD CU
    go_wp2_with fail
    go_ret
    exact ⟨rfl, HF.out⟩
  subst he
  have HSD := Lib.hid hsd
  clear hsd
  have mn1 := HA.out.kept (FV1.out.2.2 M hFM)
  have c0 := mn1.c0
  have HA1 := Lib.hid mn1
  clear mn1
  have HBAD := Lib.hid (show ∀ w', FsV F B p (n + 1) m s1 w w' → LoadV F B p n m M K s1 15 mx brk w w' from fun w' f => .inl ⟨by decide, f.hs.up (by omega) (by omega), f.2.1, fun k hk _ => f.2.2 k hk⟩)
  cases hnu : numM name with
  | none =>
    rw [hnu] at CU
    simp only at CU
    have hq := HR.out
    rw [loadM_2 HSD.out hnu] at hq
    obtain ⟨rfl, hq2⟩ := Prod.mk.inj hq
    obtain ⟨rfl, rfl⟩ := Prod.mk.inj hq2
    clear hq hq2
    go_wp2_with fail
    go_at_call 239
    (with_reducible refine (CU.out _).mono ?_)
    rintro _ _ ⟨rfl, rfl⟩
    go_wp2_with fail
    go_ret
    exact ⟨rfl, HBAD.out _ FV1.out⟩
  | some num =>
    obtain ⟨hnm, hnum⟩ := numM_name hnu
    rw [hnu] at CU
    simp only at CU
    have HNU := Lib.hid hnu
    have HG1 := Lib.hid (fun (b : List UInt8) (hb : s1.read name = (b, 0)) => HG.out b hb (by rw [hnu]; rfl))
    clear hnu HG
    rcases hrd : s1.read name with ⟨rb, re⟩
    have CR := Lib.hid (HRD.out w1 s1 FV1.out.hs)
    rw [hrd] at CR
    unfold readV at CR
    simp only at CR
    go_wp2_with fail
    go_at_call 239
    (with_reducible refine (CU.out _).mono ?_)
    rintro _ _ ⟨rfl, rfl⟩
    go_wp2_with fail
    go_at_call 32
    (with_reducible refine CR.out.mono ?_)
    rintro _ _ ⟨rfl, rfl⟩
    clear CU CR HRD
    by_cases he : re = 0
    rotate_left
    · have heb : (re != 0) = true := by simpa using he
      have hq := HR.out
      rw [loadM_3 HSD.out HNU.out (by rw [hrd]; exact he)] at hq
      obtain ⟨rfl, hq2⟩ := Prod.mk.inj hq
      obtain ⟨rfl, rfl⟩ := Prod.mk.inj hq2
      clear hq hq2 hrd
      go_wp2_with fail
      go_ret
      exact ⟨rfl, HBAD.out _ FV1.out⟩
    subst he
    have hgood := HG1.out rb hrd
    obtain ⟨CT, hCT⟩ : ∃ CT : ByteArray, (⟨rb.toArray⟩ : ByteArray) = CT := ⟨_, rfl⟩
    have hCl : CT.data.toList = rb := by rw [← hCT]
    have hCs : CT.size = rb.length := by rw [← hCT]; simp [ByteArray.size]
    have CS := Lib.hid (fun W => scan_any CT W (by rw [hCs]; exact hgood.len))
    rw [hCl] at CS
    obtain ⟨rs, hrs⟩ : ∃ rs, (scanF rb).1 = rs := ⟨_, rfl⟩
    obtain ⟨sz, hsz⟩ : ∃ sz, (scanF rb).2 = sz := ⟨_, rfl⟩
    rw [hrs, hsz] at CS
    have hfine : FineR rs := by rw [← hrs]; exact hgood.fine
    have hfew : ∀ v, replayM rs = some v → v.ts.length ≤ 10000 ∧ (wholeB v.up).length ≤ K := by rw [← hrs]; exact hgood.few
    have CP := Lib.hid (fun (W : World) (v : Value) (B : Nat) (hR : (rowT v rs).ok B W) => mreplay_any rs v B W hR hfine)
    unfold verV at CP
    have H4 := Lib.hid (show replayM rs = none → loadM s name mx = (s1, 15, mx) from fun hp => loadM_4 HSD.out HNU.out hrd (by rw [hrs]; exact hp))
    have H5 := Lib.hid (show ∀ v, replayM rs = some v → sz < rb.length → loadM s name mx = anewM s1 ⟨num, v⟩ v from fun v hp hl => loadM_5 HSD.out HNU.out hrd (by rw [hrs]; exact hp) (by rw [hsz]; exact hl))
    have H6 := Lib.hid (show ∀ v, replayM rs = some v → ¬ sz < rb.length → loadM s name mx = ((s1.sync name).1, (s1.sync name).2, ⟨num, v⟩) from fun v hp hl => loadM_6 HSD.out HNU.out hrd (by rw [hrs]; exact hp) (by rw [hsz]; exact hl))
    rw [hCT]
    have HCS := Lib.hid hCs
    clear hrd hCs hCT hCl hrs hsz hgood hfine HG1
    go_wp2_with fail
    go_at_call 240
    (with_reducible refine (CS.out _).mono ?_)
    rintro _ w2 ⟨rv, rfl, hrow, b2⟩
    go_wp2_with fail
    go_at_call 241
    (with_reducible refine (CP.out _ _ _ hrow).mono ?_)
    rintro _ w3 ⟨ok, u, ra, rc, rfl, b3, hyes, hno⟩
    have FV3 := Lib.hid ((FV1.out.made b2).made b3)
    have hb13 := b2.trans (b3.mono b2.size)
    clear CS CP hrow
    cases ok with
    | false =>
      have hq := HR.out
      rw [H4.out (hno rfl)] at hq
      obtain ⟨rfl, hq2⟩ := Prod.mk.inj hq
      obtain ⟨rfl, rfl⟩ := Prod.mk.inj hq2
      have HF := Lib.hid (HBAD.out _ (FV3.out.made ((Below.refl _ _).alloc (Nat.le_refl _) (.cells #[.int .i64 u.log, .int .i64 u.next, .int .u64 (u.seq : Int), .slice ra u.ts.length rc] 63))))
      clear hq hq2 hyes hno b2 b3 hb13 H5 H6 H4
      go_wp2_with fail
      go_ret
      exact ⟨rfl, HF.out⟩
    | true =>
      obtain ⟨hp, hrowV, hof⟩ := hyes rfl
      obtain ⟨hright, -⟩ := replayM_right hp
      obtain ⟨hul, huK⟩ := hfew u hp
      obtain ⟨W4, hW4⟩ : ∃ W4, w3.alloc (.cells #[.int .i64 u.log, .int .i64 u.next, .int .u64 (u.seq : Int), .slice ra u.ts.length rc] 63) = W4 := ⟨_, rfl⟩
      obtain ⟨X, hX⟩ : ∃ X, w3.heap.size = X := ⟨_, rfl⟩
      have b4 : Below w3.heap.size w3 W4 := by rw [← hW4]; exact (Below.refl _ _).alloc (Nat.le_refl _) _
      have hsz4 : W4.heap.size = w3.heap.size + 1 := by rw [← hW4]; simp
      have x4 : BoxV X u.log u.next u.seq (.slice ra u.ts.length rc) W4 := by rw [← hX, ← hW4]; exact new_block _ _ rfl
      have b14 := hb13.trans (b4.mono hb13.size)
      obtain ⟨Q, hQ⟩ : ∃ Q : Nat → Prop, (fun j => ob (.slice ra u.ts.length rc) = some j ∧ j < w3.heap.size) = Q := ⟨_, rfl⟩
      have hrq : RowQ Q w3 (.slice ra u.ts.length rc) u.ts := by rw [← hQ]; exact rowQ_of hrowV
      have hQl : ∀ j, Q j → w2.heap.size ≤ j ∧ j < w3.heap.size := by rw [← hQ]; exact fun j hj => ⟨hof j hj.1, hj.2⟩
      have hrq4 : RowQ Q W4 (.slice ra u.ts.length rc) u.ts := hrq.kept fun j hj => b4.block j (hQl j hj).2
      have hw12 := b2.size
      have hw23 := b3.size
      have hs4 : Hs (fun j => (F j ∨ Q j) ∨ j = X) B p (n + 1) m s1 W4 := FV1.out.hs.below b14 fun j hj => by
        rcases hj with (hj | hj) | rfl
        · exact .inl hj
        · exact .inr ⟨by have := hQl j hj; omega, by have := hQl j hj; omega⟩
        · exact .inr ⟨by omega, by omega⟩
      have mn4 := HA1.out.kept (b14.block M HA1.out.lt)
      have hBw := FV1.out.hs.size
      have hR4 : ManR (fun j => (F j ∨ Q j) ∨ j = X) B p (n + 1) m M s1 mf0 vv0 brk W4 W4 := ⟨hs4, mn4, Below.refl _ _, fun _ _ _ => rfl⟩
      have hR5 := ((hR4.setNum (.inl (.inl hFM)) hBM num).setVer (.inl (.inl hFM)) hBM u (.slice ra u.ts.length rc)).made (Below.refl _ _).drew
      have HB04 := Lib.hid (show Below B w W4 from FV1.out.2.1.trans (b14.mono hBw))
      have HK04 := Lib.hid (show ∀ j, F j → W4.heap[j]? = w.heap[j]? from fun j hj => (b14.block j (FV1.out.hs.lt j hj)).trans (FV1.out.2.2 j hj))
      have hMQ : ¬ Q M := fun hq => by have := hQl M hq; have := HA1.out.lt; omega
      have hMX : M ≠ X := by have := HA1.out.lt; omega
      have HRQ := Lib.hid hrq4
      have HQL := Lib.hid (show ∀ j, Q j → w.heap.size ≤ j from fun j hj => by have := hQl j hj; have := FV1.out.2.1.size; omega)
      unfold verW numW at hR5
      obtain ⟨W5, hW5⟩ : ∃ W5, (((((W4.setCell ⟨M, 1, none⟩ (.int .i64 (num : Int))).setCell ⟨M, 2, none⟩ (.int .i64 u.log)).setCell ⟨M, 3, none⟩ (.int .i64 u.next)).setCell ⟨M, 4, none⟩ (.int .u64 (u.seq : Int))).setCell ⟨M, 5, none⟩ (.slice ra u.ts.length rc)).drew = W5 := ⟨_, rfl⟩
      rw [hW5] at hR5
      have HR5 := Lib.hid hR5
      have HX5 := Lib.hid (show BoxV X u.log u.next u.seq (.slice ra u.ts.length rc) W5 from (hR5.kp X (.inr rfl) hMX.symm).trans x4)
      have HT5 := Lib.hid (show TbsV W5 (.slice ra u.ts.length rc) u.ts from (hrq4.kept fun j hj => hR5.kp j (.inl (.inr hj)) (fun e => hMQ (e ▸ hj))).row.v)
      have HMR := Lib.hid (fun (n' m' : Nat) (s' : St) (mf' : Mf) (w' : World) (hts : mf'.v.ts = u.ts) (q : ManR (fun j => (F j ∨ Q j) ∨ j = X) B p n' m' M s' mf' (.slice ra u.ts.length rc) brk W5 w') => (show ManQ F Q B p n' m' M s' mf' (.slice ra u.ts.length rc) brk w w' from
        ⟨q.hs.fewer fun _ hj => .inl hj, q.man, HB04.out.trans (hR5.bel.trans q.bel), fun j hj hne => ((q.kp j (.inl (.inl hj)) hne).trans (hR5.kp j (.inl (.inl hj)) hne)).trans (HK04.out j hj), by rw [hts]; exact HRQ.out.kept fun j hj => (q.kp j (.inl (.inr hj)) (fun e => hMQ (e ▸ hj))).trans (hR5.kp j (.inl (.inr hj)) (fun e => hMQ (e ▸ hj))), HQL.out⟩))
      have HME := Lib.hid (fun (n' m' : Nat) (s' : St) (mf' : Mf) (vv' : Value) (w' : World) (q : ManR (fun j => (F j ∨ Q j) ∨ j = X) B p n' m' M s' mf' vv' brk W5 w') => (show Hs F B p n' m' s' w' ∧ Below B w w' ∧ (∀ k, F k → k ≠ M → w'.heap[k]? = w.heap[k]?) from
        ⟨q.hs.fewer fun _ hj => .inl (.inl hj), HB04.out.trans (hR5.bel.trans q.bel), fun j hj hne => ((q.kp j (.inl (.inl hj)) hne).trans (hR5.kp j (.inl (.inl hj)) hne)).trans (HK04.out j hj)⟩))
      have y0 := x4.c0
      have y1 := x4.c1
      have y2 := x4.c2
      have y3 := x4.c3
      have g1 := mn4.c1
      have g2 := mn4.c2
      have g3 := mn4.c3
      have g4 := mn4.c4
      have g5 := mn4.c5
      have f1 := mn4.f 1
      have f2 := mn4.f 2
      have f3 := mn4.f 3
      have f4 := mn4.f 4
      have f5 := mn4.f 5
      have hXM : X ≠ M := hMX.symm
      have HW4 := Lib.hid hW4
      have HW5 := Lib.hid hW5
      clear hyes hno hrowV hof b2 b3 b4 b14 hb13 hrq hQl hrq4 hs4 hR4 hR5 x4 H4 HBAD hW4 hW5 mn4 hQ c0
      go_upto_region 14 with fail
      rw [HW4.out]
      go_region_with fail
      all_goals
        rw [HW5.out]
      clear HW5 HW4 y0 y1 y2 y3 g1 g2 g3 g4 g5 f1 f2 f3 f4 f5
      all_goals
        have y0 := HX5.out.c0
        have y1 := HX5.out.c1
        have y2 := HX5.out.c2
        have y3 := HX5.out.c3
        have c0 := HR5.out.man.c0
        by_cases hl : sz < rb.length
        · have d1 : decide ((sz : Int) < (CT.size : Int)) = true := by rw [HCS.out]; exact decide_eq_true (by omega)
          have d2 : decide (sz < CT.size) = true := by rw [HCS.out]; exact decide_eq_true hl
          have hq := HR.out
          rw [H5.out u hp hl] at hq
          have CL := Lib.hid (manew_any HR5.out.hs (by omega) (by omega) M ⟨num, u⟩ hnum (.slice ra u.ts.length rc) brk HR5.out.man (.inl (.inl hFM)) hBM u ra rc HT5.out hright hul K huK sr er mr hq)
          have HTS := Lib.hid (show er = 0 → mr.v.ts = u.ts from fun h => anewM_ts (by rw [hq, h]))
          clear hq hp H5 H6 HR hl
          go_wp2_with fail
          go_at_call 43
          (with_reducible refine CL.out.mono ?_)
          rintro _ w6 ⟨rfl, hc⟩
          have HC := Lib.hid (show LoadV F B p n m M K sr er mr brk w w6 from by
            rcases hc with ⟨hz, -, q⟩ | ⟨hz, q⟩
            · obtain ⟨q1, q2, q3⟩ := HME.out _ _ _ _ _ _ q
              exact .inl ⟨hz, q1.up (by omega) (by omega), q2, q3⟩
            · have q1 := HMR.out _ _ _ _ _ (HTS.out hz) q
              refine .inr ⟨hz, ra, rc, Q, ?_⟩
              rw [HTS.out hz]
              exact ⟨q1.hs.up (by omega) (by omega), q1.man, q1.bel, q1.kp, q1.row, q1.new⟩)
          clear hc CL HTS
          go_wp2_with fail
          go_ret
          exact ⟨rfl, HC.out⟩
        · have d1 : decide ((sz : Int) < (CT.size : Int)) = false := by rw [HCS.out]; exact decide_eq_false (by omega)
          have d2 : decide (sz < CT.size) = false := by rw [HCS.out]; exact decide_eq_false hl
          have hq := HR.out
          rw [H6.out u hp hl] at hq
          have CY := Lib.hid (hs_sync HR5.out.hs (by omega) NM hNm)
          rcases hsy : s1.sync NM.data.toList with ⟨s6, e6⟩
          rw [hsy] at CY
          simp only at CY
          have hsy' : s1.sync name = (s6, e6) := by rw [← HNM.out]; exact hsy
          rw [hsy'] at hq
          obtain ⟨rfl, hq2⟩ := Prod.mk.inj hq
          obtain ⟨rfl, rfl⟩ := Prod.mk.inj hq2
          clear hq hq2 hp H5 H6 HR hl hsy hsy'
          go_wp2_with fail
          go_at_call 61
          (with_reducible refine CY.out.mono ?_)
          rintro _ w6 ⟨rfl, h6, b6, k6⟩
          have q : ManR (fun j => (F j ∨ Q j) ∨ j = X) B p (n + 1 + 1) m M _ ⟨num, u⟩ (.slice ra u.ts.length rc) brk W5 w6 := ⟨h6, HR5.out.man.kept (k6 M (.inl (.inl hFM))), b6, fun j hj _ => k6 j hj⟩
          have HC := Lib.hid (show LoadV F B p n m M K _ e6 ⟨num, u⟩ brk w w6 from by
            by_cases hz : e6 = 0
            · have q1 := HMR.out _ _ _ _ _ rfl q
              exact .inr ⟨hz, ra, rc, Q, q1.hs.up (by omega) (by omega), q1.man, q1.bel, q1.kp, q1.row, q1.new⟩
            · obtain ⟨q1, q2, q3⟩ := HME.out _ _ _ _ _ _ q
              exact .inl ⟨hz, q1.up (by omega) (by omega), q2, q3⟩)
          clear h6 b6 k6 q CY
          go_wp2_with fail
          go_ret
          exact ⟨rfl, HC.out⟩
end
end Go.Proofs.YtlecffpjcjlabaaGreat

namespace Go.Proofs.YtlecffpjcjlabaaGreat
open Go.RowKit Go.Shelf

section
variable {w : World} {M p : Nat} {mf : Mf} {vv : Value} {brk : Bool}
set_option maxHeartbeats 1000000 in
theorem mnone_no (h : ManAt w M p mf vv brk) : Calls Tryz.prog 39 #[.pointer (some ⟨M, 0, none⟩)] w fun e w' => e = .returned (.bool false) ∧ w = w' := by
  have c0 := h.c0
  clear h
  go_enter Tryz.func39, Tryz.ntmps39
  go_wp2
  go_ret
  exact ⟨rfl, rfl⟩
set_option maxHeartbeats 1000000 in
theorem mbroken_any (h : ManAt w M p mf vv brk) : Calls Tryz.prog 23 #[.pointer (some ⟨M, 0, none⟩)] w fun e w' => e = .returned (.bool brk) ∧ w = w' := by
  have c6 := h.c6
  clear h
  go_enter Tryz.func23, Tryz.ntmps23
  go_wp2
  go_ret
  exact ⟨rfl, rfl⟩
set_option maxHeartbeats 1000000 in
theorem mnameof_any (h : ManAt w M p mf vv brk) (hn : mf.num < 100000000) : Calls Tryz.prog 22 #[.pointer (some ⟨M, 0, none⟩)] w fun e w' => e = .returned (.string ⟨(nmM mf.num).toArray⟩) ∧ Below w.heap.size w w' := by
  have C1 := Lib.hid (mnone_no h)
  have C2 := Lib.hid (fun W => mname_any (mf.num : Int) W (by omega) (by omega))
  rw [show ((mf.num : Int) % 100000000).toNat = mf.num by omega] at C2
  have c1 := h.c1
  clear h
  go_enter Tryz.func22, Tryz.ntmps22
  go_wp2_with (first | (go_at_call 39; (with_reducible refine C1.out.mono ?_); rintro _ _ ⟨rfl, rfl⟩) | (go_at_call 38; (with_reducible refine (C2.out _).mono ?_); rintro _ w1 ⟨rfl, b1⟩) | fail)
  go_ret
  exact ⟨rfl, b1⟩
set_option maxHeartbeats 4000000 in
set_option maxRecDepth 100000 in
/-- Version: the tables are copied. -/
theorem mversion_any (a : Option Addr) (c : Nat) (h : ManAt w M p mf (.slice a mf.v.ts.length c) brk) (hr : TbsV w (.slice a mf.v.ts.length c) mf.v.ts) (hl : mf.v.ts.length ≤ 10000) :
    Calls Tryz.prog 20 #[.pointer (some ⟨M, 0, none⟩)] w fun e w' => ∃ ra rc, e = .returned (.agg #[.int .i64 mf.v.log, .int .i64 mf.v.next, .int .u64 (mf.v.seq : Int), .slice ra mf.v.ts.length rc]) ∧ RowB w' (.slice ra mf.v.ts.length rc) mf.v.ts ∧ (∀ k, ob (.slice ra mf.v.ts.length rc) = some k → w.heap.size ≤ k) ∧ Below w.heap.size w w' := by
  obtain ⟨W1, hW1⟩ : ∃ W1, w.alloc (.cells #[.int .i64 0, .int .i64 0, .int .u64 0, .slice none 0 0] 63) = W1 := ⟨_, rfl⟩
  obtain ⟨W2, hW2⟩ : ∃ W2, W1.alloc (.cells #[.int .i64 mf.v.log, .int .i64 mf.v.next, .int .u64 (mf.v.seq : Int), .slice a mf.v.ts.length c] 63) = W2 := ⟨_, rfl⟩
  obtain ⟨X, hX⟩ : ∃ X, w.heap.size = X := ⟨_, rfl⟩
  have s1 : W1.heap.size = X + 1 := by rw [← hW1]; simp; omega
  have b1 : Below w.heap.size w W1 := by rw [← hW1]; exact (Below.refl _ _).alloc (Nat.le_refl _) _
  have b2 : Below w.heap.size w W2 := by rw [← hW2]; exact b1.alloc (by rw [s1]; omega) _
  have x1 : BoxV X 0 0 0 (.slice none 0 0) W2 := by rw [← hW2]; exact (Below.heap_alloc _ _ _ (by rw [s1]; omega)).trans (by rw [← hW1, ← hX]; exact new_block _ _ rfl)
  have y2 : BoxV (X + 1) mf.v.log mf.v.next mf.v.seq (.slice a mf.v.ts.length c) W2 := by rw [← hW2, ← s1]; exact new_block _ _ rfl
  have C1 := Lib.hid (mnone_no (h.kept (b1.block M h.lt)))
  have C2 := Lib.hid (scloneT_any (.slice a mf.v.ts.length c) mf.v.ts W2 (hr.below b2) (by omega))
  have m1 := h.kept (b1.block M h.lt)
  have c2 := m1.c2
  have c3 := m1.c3
  have c4 := m1.c4
  have c5 := m1.c5
  have HX1 := Lib.hid x1
  have HY2 := Lib.hid y2
  have HB2 := Lib.hid b2
  have HXE := Lib.hid hX
  have HW2 := Lib.hid hW2
  have y3 := y2.c3
  clear h hr hX b1 b2 x1 y2 m1 hW2
  go_enter Tryz.func20, Tryz.ntmps20
  go_upto_region 1 with fail
  try rw [hW1]
  try rw [HXE.out]
  clear hW1
  go_wp2_with (go_at_call 39; (with_reducible refine C1.out.mono ?_); rintro _ _ ⟨rfl, rfl⟩)
  rw [HW2.out]
  (with_reducible refine C2.out.mono ?_)
  rintro _ w3 ⟨v', rfl, hr3, b3, ho3⟩
  obtain ⟨ra, rc, rfl⟩ := hr3.short
  have x3 := HX1.out.below b3
  have y3 := HY2.out.below b3
  have HB3 := Lib.hid (HB2.out.trans (b3.mono HB2.out.size))
  have HR3 := Lib.hid (And.intro hr3 ho3)
  have hsz := HX1.out.lt
  have hsz' := HY2.out.lt
  have g0 := y3.c0
  have g1 := y3.c1
  have g2 := y3.c2
  have g3 := y3.c3
  have gf := y3.f 3
  have f0 := x3.f 0
  have f1 := x3.f 1
  have f2 := x3.f 2
  have f3 := x3.f 3
  have k0 := x3.c0
  have k1 := x3.c1
  have k2 := x3.c2
  have k3 := x3.c3
  have hne : X ≠ X + 1 := by omega
  have hne' : X + 1 ≠ X := by omega
  have HX3 := Lib.hid x3
  clear hr3 b3 ho3 x3 y3 C2 c2 c3 c4 c5 HW2
  go_wp2_with fail
  obtain ⟨WF, hWF⟩ : ∃ WF, set4V (w3.setCell ⟨X + 1, 3, none⟩ (.slice ra mf.v.ts.length rc)) X mf.v.log mf.v.next (mf.v.seq : Int) (.slice ra mf.v.ts.length rc) = WF := ⟨_, rfl⟩
  have hF1 : BoxV X mf.v.log mf.v.next mf.v.seq (.slice ra mf.v.ts.length rc) WF := by
    rw [← hWF]
    exact (show BoxV X 0 0 0 (.slice none 0 0) (w3.setCell ⟨X + 1, 3, none⟩ (.slice ra mf.v.ts.length rc)) from (set_block _ _ _ _ X hne).trans HX3.out).set4 _ _ _ _
  have hX := HXE.out
  have hF2 : Below w.heap.size w WF := by rw [← hWF]; exact set4V_below (HB3.out.setCell (p := ⟨X + 1, 3, none⟩) (show w.heap.size ≤ X + 1 by omega) _) X (by omega) _ _ _ _
  have hF3 : RowB WF (.slice ra mf.v.ts.length rc) mf.v.ts := by
    rw [← hWF]
    exact Row.kept HR3.out.1 fun k hk => by
      have := HR3.out.2 k hk
      rw [set4V_block _ _ _ _ _ _ _ (by omega), set_block _ _ _ _ _ (by omega)]
  unfold set4V at hWF
  rw [hWF]
  have z0 := hF1.c0
  have z1 := hF1.c1
  have z2 := hF1.c2
  have z3 := hF1.c3
  refine bodyPost_ret (by simp [results, Tryz.results20, go_sem, z0, z1, z2, z3]; try rfl) rfl ?_
  exact ⟨ra, rc, rfl, hF3, fun k hk => by have := HR3.out.2 k hk; omega, hF2⟩
end
section
variable {s : St} {b : List UInt8}
theorem openM_1 (hr : s.read curN = (b, 0)) : openM s = loadM s b ⟨0, Vr.zero⟩ := by
  unfold openM
  rw [hr]
  simp
theorem openM_2 (hr : (s.read curN).2 = 7) : openM s = layV s 1 vStart ⟨0, Vr.zero⟩ := by
  unfold openM
  simp only
  rw [if_neg (by omega), if_pos hr]
theorem openM_3 (h0 : (s.read curN).2 ≠ 0) (h7 : (s.read curN).2 ≠ 7) : openM s = (s, (s.read curN).2, ⟨0, Vr.zero⟩) := by
  unfold openM
  simp only
  rw [if_neg h0, if_neg h7]
end
section
variable {F : Nat → Prop} {B p n m : Nat} {s : St} {w : World}
/-- What is asked of the files that are opened. -/
def GoodO (K : Nat) (s : St) : Prop := (wholeB vStart).length ≤ K ∧ ∀ name b, s.read curN = (name, 0) → name.length ≤ 1000000000 ∧ (s.syncDir.1.read name = (b, 0) → (numM name).isSome = true → GoodB K b)
set_option maxHeartbeats 8000000 in
set_option maxRecDepth 100000 in
theorem mopen0_any (h : Hs F B p n m s w) (hN : n ≤ 50000) (hM : m ≤ 700000000) (M : Nat) (hA : ManAt w M p ⟨0, Vr.zero⟩ (.slice none 0 0) false) (hFM : F M) (hBM : B ≤ M) (K : Nat) (hG : GoodO K s) (sr : St) (er : Int) (mr : Mf) (hr : openM s = (sr, er, mr)) :
    Calls Tryz.prog 51 #[.pointer (some ⟨M, 0, none⟩)] w fun e w' => e = .returned (.int .i64 er) ∧ LoadV F B p n m M K sr er mr false w w' := by
  have CR := Lib.hid (hs_read h ⟨#[67, 85, 82, 82, 69, 78, 84]⟩ (by decide))
  rw [lit_cur] at CR
  have c0 := hA.c0
  rcases hrd : s.read curN with ⟨rb, re⟩
  rw [hrd] at CR
  unfold readV at CR
  simp only at CR
  obtain ⟨hK, hG⟩ := hG
  by_cases h0 : re = 0
  · subst h0
    obtain ⟨NM, hNM⟩ : ∃ NM : ByteArray, (⟨rb.toArray⟩ : ByteArray) = NM := ⟨_, rfl⟩
    have hNl : NM.data.toList = rb := by rw [← hNM]
    have hNs : NM.size = rb.length := by rw [← hNM]; simp [ByteArray.size]
    rw [openM_1 hrd, ← hNl] at hr
    have hrl := (hG rb [] hrd).1
    have CL := Lib.hid (mload_any h hN hM M _ _ false hA hFM hBM NM (by rw [hNs]; exact hrl) K (fun b hb hn => (hG rb b hrd).2 (by rw [hNl] at hb; exact hb) (by rw [hNl] at hn; exact hn)) ⟨0, Vr.zero⟩ sr er mr hr)
    rw [hNM] at CR
    clear h hA hG hr hrd hNM hNl hNs hrl
    go_enter Tryz.func51, Tryz.ntmps51
    go_wp2_with (first | (go_at_call 32; (with_reducible refine CR.out.mono ?_); rintro _ _ ⟨rfl, rfl⟩) | (go_at_call 171; (with_reducible refine CL.out.mono ?_); rintro _ w1 ⟨rfl, hc⟩) | fail)
    go_ret
    exact ⟨rfl, hc⟩
  · have hb0 : (re == 0) = false := by simpa using h0
    by_cases h7 : re = 7
    · subst h7
      rw [openM_2 (by rw [hrd])] at hr
      rcases hl : layM s (nmM 1) (wholeB vStart) with ⟨s1, e1⟩
      have hv := vStart_right
      have CL := Lib.hid (mlay_any h (by omega) (by omega) M _ _ false hA hFM hBM 1 (by omega) vStart none 0 (.inl ⟨rfl, rfl⟩) hv.1 (by decide) s1 e1 hl)
      have hq : layV s 1 vStart ⟨0, Vr.zero⟩ = (s1, e1, if e1 = 0 then ⟨1, vStart⟩ else ⟨0, Vr.zero⟩) := by
        unfold layV
        rw [hl]
      rw [hq] at hr
      obtain ⟨rfl, hr2⟩ := Prod.mk.inj hr
      obtain ⟨rfl, hmr⟩ := Prod.mk.inj hr2
      have HMR := Lib.hid hmr
      have HK := Lib.hid hK
      clear h hA hG hr hr2 hrd hq hl hv hmr
      go_enter Tryz.func51, Tryz.ntmps51
      go_wp2_with (first | (go_at_call 32; (with_reducible refine CR.out.mono ?_); rintro _ _ ⟨rfl, rfl⟩) | (go_at_call 158; refine CL.out.mono ?_; rintro _ w1 ⟨rfl, hc0⟩; have HC := Lib.hid hc0; clear hc0) | fail)
      go_ret
      refine ⟨rfl, ?_⟩
      have hk := HK.out
      rcases HC.out with ⟨hz, q⟩ | ⟨hz, q⟩
      · exact .inl ⟨hz, q.hs.up (by omega) (by omega), q.bel, q.kp⟩
      · refine .inr ⟨hz, none, 0, fun _ => False, ?_⟩
        have e := HMR.out
        rw [if_pos hz] at e
        subst e
        exact ⟨(q.hs.up (by omega) (by omega)).fewer fun j hj => hj.elim id False.elim, q.man, q.bel, q.kp, fun w' _ => row_nilB w', fun j hj => hj.elim⟩
    · have hb7 : (re == 7) = false := by simpa using h7
      rw [openM_3 (by rw [hrd]; exact h0) (by rw [hrd]; exact h7), hrd] at hr
      obtain ⟨rfl, hr2⟩ := Prod.mk.inj hr
      obtain ⟨rfl, rfl⟩ := Prod.mk.inj hr2
      have HF := Lib.hid (show LoadV F B p n m M K s re ⟨0, Vr.zero⟩ false w w from .inl ⟨h0, h.up (by omega) (by omega), Below.refl _ _, fun _ _ _ => rfl⟩)
      clear h hA hG hr hr2 hrd
      go_enter Tryz.func51, Tryz.ntmps51
      go_wp2_with (go_at_call 32; (with_reducible refine CR.out.mono ?_); rintro _ _ ⟨rfl, rfl⟩)
      go_ret
      exact ⟨rfl, HF.out⟩
end
end Go.Proofs.YtlecffpjcjlabaaGreat

namespace Go.Proofs.YtlecffpjcjlabaaGreat
open Go.RowKit Go.Shelf

/-- What Open answers of files that are opened. -/
structure OpenQ (F Q Q2 : Nat → Prop) (B p n m M : Nat) (sr : St) (mr : Mf) (a : Option Addr) (c : Nat) (ra : Option Addr) (rc : Nat) (w w' : World) : Prop where
  hs : Hs (fun j => F j ∨ j = M ∨ Q j ∨ Q2 j) B p n m sr w'
  man : ManAt w' M p mr (.slice a mr.v.ts.length c) false
  row : RowQ Q w' (.slice a mr.v.ts.length c) mr.v.ts
  row2 : RowQ Q2 w' (.slice ra mr.v.ts.length rc) mr.v.ts
  bel : Below B w w'
  kp : Kp F w w'
  newM : w.heap.size ≤ M
  newQ : ∀ j, Q j → w.heap.size ≤ j ∧ j ≠ M
  newQ2 : ∀ j, Q2 j → w.heap.size ≤ j ∧ j ≠ M ∧ ¬ Q j
def OpenV (F : Nat → Prop) (B p n m K : Nat) (sr : St) (er : Int) (mr : Mf) (w : World) (e : Ending) (w' : World) : Prop :=
  (er ≠ 0 ∧ e = .returned (.tuple #[.pointer none, .agg #[.int .i64 0, .int .i64 0, .int .u64 0, .slice none 0 0], .int .i64 er]) ∧ FsV F B p (n + 24) (m + K + 9) sr w w') ∨
  (er = 0 ∧ ∃ M a c Q ra rc Q2, e = .returned (.tuple #[.pointer (some ⟨M, 0, none⟩), .agg #[.int .i64 mr.v.log, .int .i64 mr.v.next, .int .u64 (mr.v.seq : Int), .slice ra mr.v.ts.length rc], .int .i64 0]) ∧ OpenQ F Q Q2 B p (n + 24) (m + K + 9) M sr mr a c ra rc w w')
section
variable {F : Nat → Prop} {B p n m : Nat} {s : St} {w : World}
set_option maxHeartbeats 8000000 in
set_option maxRecDepth 100000 in
theorem mopen_any (h : Hs F B p n m s w) (hN : n ≤ 50000) (hM : m ≤ 700000000) (K : Nat) (hG : GoodO K s) (sr : St) (er : Int) (mr : Mf) (hr : openM s = (sr, er, mr)) (hl : er = 0 → mr.v.ts.length ≤ 10000) :
    Calls Tryz.prog 15 #[.pointer (some ⟨p, 0, none⟩)] w fun e w' => OpenV F B p n m K sr er mr w e w' := by
  obtain ⟨R, hR⟩ : ∃ R, w.heap.size = R := ⟨_, rfl⟩
  obtain ⟨W1, hW1⟩ : ∃ W1, (w.alloc (.cells #[.int .i64 0, .int .i64 0, .int .u64 0, .slice none 0 0] 63)).alloc (.cells #[.pointer (some ⟨p, 0, none⟩), .int .i64 0, .int .i64 0, .int .i64 0, .int .u64 0, .slice none 0 0, .bool false] 80) = W1 := ⟨_, rfl⟩
  have s1 : W1.heap.size = R + 2 := by rw [← hW1]; simp; omega
  have b1 : Below w.heap.size w W1 := by rw [← hW1]; exact ((Below.refl _ _).alloc (Nat.le_refl _) _).alloc (by simp) _
  have x1 : BoxV R 0 0 0 (.slice none 0 0) W1 := by rw [← hW1, ← hR]; exact (Below.heap_alloc _ _ _ (by simp)).trans (new_block _ _ rfl)
  have m1 : ManAt W1 (R + 1) p ⟨0, Vr.zero⟩ (.slice none 0 0) false := by rw [← hW1]; exact new_block _ _ (by simp; omega)
  have hs1 : Hs (fun j => (F j ∨ j = R) ∨ j = R + 1) B p n m s W1 := h.below b1 fun j hj => by
    rcases hj with (hj | rfl) | rfl
    · exact .inl hj
    · exact .inr ⟨by omega, by omega⟩
    · exact .inr ⟨by omega, by omega⟩
  have hBw := h.size
  have CO := Lib.hid (mopen0_any hs1 hN hM (R + 1) m1 (.inr rfl) (by omega) K hG sr er mr hr)
  have HB1 := Lib.hid (b1.mono hBw)
  have HK1 := Lib.hid (show ∀ j, F j → W1.heap[j]? = w.heap[j]? from fun j hj => b1.block j (h.lt j hj))
  have HFL := Lib.hid (show ∀ j, F j → j < R from fun j hj => by have := h.lt j hj; omega)
  have HX1 := Lib.hid x1
  have HRE := Lib.hid hR
  have HL := Lib.hid hl
  have HBR := Lib.hid (show B ≤ R by omega)
  clear h hr hG b1 x1 m1 hs1 hl
  go_enter Tryz.func15, Tryz.ntmps15
  go_upto_region 2 with fail
  try rw [hW1]
  try rw [hR]
  clear hW1
  go_wp2_with fail
  go_at_call 51
  (with_reducible refine CO.out.mono ?_)
  rintro _ w4 ⟨rfl, hc⟩
  by_cases hz : er = 0
  · subst hz
    have hL := HL.out rfl
    obtain ⟨a, c, Q, q⟩ : ∃ a c Q, ManQ (fun j => (F j ∨ j = R) ∨ j = R + 1) Q B p (n + 24) (m + K + 9) (R + 1) sr mr (.slice a mr.v.ts.length c) false W1 w4 := by
      rcases hc with ⟨h0, -⟩ | ⟨-, h1⟩
      · exact absurd rfl h0
      · exact h1
    have CV := Lib.hid (mversion_any a c q.man q.row.row.v hL)
    have x4 : BoxV R 0 0 0 (.slice none 0 0) w4 := (q.kp R (.inl (.inr rfl)) (by omega)).trans HX1.out
    have HX4 := Lib.hid x4
    have HQ := Lib.hid q
    clear hc q x4 CO hL HL
    go_wp2_with fail
    go_at_call 20
    (with_reducible refine CV.out.mono ?_)
    rintro _ w5 ⟨ra, rc, rfl, hr5, ho5, b5⟩
    have x5 := HX4.out.below b5
    have f0 := x5.f 0
    have f1 := x5.f 1
    have f2 := x5.f 2
    have f3 := x5.f 3
    have k0 := x5.c0
    have k1 := x5.c1
    have k2 := x5.c2
    have k3 := x5.c3
    have HX5 := Lib.hid x5
    have HR5 := Lib.hid (And.intro hr5 (And.intro ho5 b5))
    clear hr5 ho5 b5 x5 CV
    go_wp2_with fail
    obtain ⟨WF, hWF⟩ : ∃ WF, set4V w5 R mr.v.log mr.v.next (mr.v.seq : Int) (.slice ra mr.v.ts.length rc) = WF := ⟨_, rfl⟩
    have hF1 : BoxV R mr.v.log mr.v.next mr.v.seq (.slice ra mr.v.ts.length rc) WF := by rw [← hWF]; exact HX5.out.set4 _ _ _ _
    have st : ∀ j, j ≠ R → WF.heap[j]? = w5.heap[j]? := fun j hj => by rw [← hWF]; exact set4V_block _ _ _ _ _ _ _ hj
    have hszF : WF.heap.size = w5.heap.size := by rw [← hWF]; exact set4V_size _ _ _ _ _ _
    obtain ⟨hr5, ho5, b5⟩ := HR5.out
    have q := HQ.out
    have hbF : Below B w4 WF := by rw [← hWF]; exact set4V_below (b5.mono q.hs.size) R HBR.out _ _ _ _
    unfold set4V at hWF
    rw [hWF]
    have z0 := hF1.c0
    have z1 := hF1.c1
    have z2 := hF1.c2
    have z3 := hF1.c3
    refine bodyPost_ret (by simp [results, Tryz.results15, go_sem, z0, z1, z2, z3]; try rfl) rfl ?_
    have hw4 := q.bel.size
    have hRlt := HX4.out.lt
    have hMlt := q.man.lt
    have st5 : ∀ j, j < w4.heap.size → j ≠ R → WF.heap[j]? = w4.heap[j]? := fun j hj hne => (st j hne).trans (b5.block j hj)
    have hQn : ∀ j, Q j → R + 2 ≤ j ∧ j < w4.heap.size := fun j hj => ⟨by have := q.new j hj; omega, q.hs.lt j (.inr hj)⟩
    obtain ⟨Q2, hQ2⟩ : ∃ Q2 : Nat → Prop, (fun j => ob (.slice ra mr.v.ts.length rc) = some j ∧ j < w5.heap.size) = Q2 := ⟨_, rfl⟩
    have hrq : RowQ Q2 w5 (.slice ra mr.v.ts.length rc) mr.v.ts := by rw [← hQ2]; exact rowQ_of hr5
    have hQ2l : ∀ j, Q2 j → w4.heap.size ≤ j ∧ j < w5.heap.size := by rw [← hQ2]; exact fun j hj => ⟨ho5 j hj.1, hj.2⟩
    have hs5 : Hs (fun j => ((F j ∨ j = R) ∨ j = R + 1) ∨ (Q j ∨ Q2 j)) B p (n + 24) (m + K + 9) sr w5 := q.hs.below b5 fun j hj => by
      rcases hj with hj | hj | hj
      · exact .inl (.inl hj)
      · exact .inl (.inr hj)
      · exact .inr (hQ2l j hj)
    have hsF := hs5.wrote (w' := WF) (Nat.le_of_eq hszF.symm) (fun j _ hj => st j (fun e => hj (.inl (.inl (.inr e)))))
    refine .inr ⟨rfl, R + 1, a, c, Q, ra, rc, Q2, rfl, hsF.fewer fun j hj => ?_, q.man.kept (st5 (R + 1) hMlt (by omega)), q.row.kept fun j hj => st5 j (hQn j hj).2 (by have := hQn j hj; omega), hrq.kept fun j hj => st j (by have := hQ2l j hj; omega), HB1.out.trans (q.bel.trans hbF), fun j hj => ?_, by have := HRE.out; omega, fun j hj => ⟨by have := hQn j hj; have := HRE.out; omega, by have := hQn j hj; omega⟩, fun j hj => ⟨by have := hQ2l j hj; have := HRE.out; omega, by have := hQ2l j hj; omega, fun hq => by have := hQn j hq; have := hQ2l j hj; omega⟩⟩
    · rcases hj with hj | hj | hj | hj
      · exact .inl (.inl (.inl hj))
      · exact .inl (.inr hj)
      · exact .inr (.inl hj)
      · exact .inr (.inr hj)
    · have h1 := HFL.out j hj
      exact (st5 j (by omega) (by omega)).trans ((q.kp j (.inl (.inl hj)) (by omega)).trans (HK1.out j hj))
  · have heb : (er != 0) = true := by simpa using hz
    obtain ⟨g1, g2, g3⟩ : Hs (fun j => (F j ∨ j = R) ∨ j = R + 1) B p (n + 24) (m + K + 9) sr w4 ∧ Below B W1 w4 ∧ (∀ k, ((F k ∨ k = R) ∨ k = R + 1) → k ≠ R + 1 → w4.heap[k]? = W1.heap[k]?) := by
      rcases hc with ⟨-, h1, h2, h3⟩ | ⟨h1, -⟩
      · exact ⟨h1, h2, h3⟩
      · exact absurd h1 hz
    have x4 : BoxV R 0 0 0 (.slice none 0 0) w4 := (g3 R (.inl (.inr rfl)) (by omega)).trans HX1.out
    have f0 := x4.f 0
    have f1 := x4.f 1
    have f2 := x4.f 2
    have f3 := x4.f 3
    have k0 := x4.c0
    have k1 := x4.c1
    have k2 := x4.c2
    have k3 := x4.c3
    have HX4 := Lib.hid x4
    have HG := Lib.hid (And.intro g1 (And.intro g2 g3))
    clear hc g1 g2 g3 x4 CO HL
    go_wp2_with fail
    obtain ⟨WF, hWF⟩ : ∃ WF, set4V w4 R 0 0 0 (.slice none 0 0) = WF := ⟨_, rfl⟩
    have hF1 : BoxV R 0 0 0 (.slice none 0 0) WF := by rw [← hWF]; exact HX4.out.set4 0 0 0 _
    have st : ∀ j, j ≠ R → WF.heap[j]? = w4.heap[j]? := fun j hj => by rw [← hWF]; exact set4V_block _ _ _ _ _ _ _ hj
    have hszF : WF.heap.size = w4.heap.size := by rw [← hWF]; exact set4V_size _ _ _ _ _ _
    obtain ⟨g1, g2, g3⟩ := HG.out
    have hbF : Below B w4 WF := by rw [← hWF]; exact set4V_below (Below.refl _ _) R HBR.out _ _ _ _
    unfold set4V at hWF
    rw [hWF]
    have z0 := hF1.c0
    have z1 := hF1.c1
    have z2 := hF1.c2
    have z3 := hF1.c3
    refine bodyPost_ret (by simp [results, Tryz.results15, go_sem, z0, z1, z2, z3]; try rfl) rfl ?_
    refine .inl ⟨hz, rfl, (g1.wrote (w' := WF) (Nat.le_of_eq hszF.symm) (fun j _ hj => st j (fun e => hj (.inl (.inr e))))).fewer fun j hj => .inl (.inl hj), HB1.out.trans (g2.trans hbF), fun j hj => ?_⟩
    have h1 := HFL.out j hj
    exact (st j (by omega)).trans ((g3 j (.inl (.inl hj)) (by omega)).trans (HK1.out j hj))
end
end Go.Proofs.YtlecffpjcjlabaaGreat

namespace Go.Proofs.YtlecffpjcjlabaaGreat
open Go.RowKit Go.Shelf

set_option maxHeartbeats 1000000 in
theorem readable_any (e : Ed) (aa : Option Addr) (ac : Nat) (da : Option Addr) (dc : Nat) (w : World) (h1 : e.add.length ≤ 10000) (h2 : e.drop.length ≤ 10000) :
    Calls Tryz.prog 41 #[.agg #[.int .i64 e.log, .int .i64 e.next, .int .u64 (e.seq : Int), .slice aa e.add.length ac, .slice da e.drop.length dc]] w fun x w' => x = .returned (.bool true) ∧ Below w.heap.size w w' := by
  obtain ⟨W1, hW1⟩ : ∃ W1, w.alloc (.cells #[.int .i64 e.log, .int .i64 e.next, .int .u64 (e.seq : Int), .slice aa e.add.length ac, .slice da e.drop.length dc] 52) = W1 := ⟨_, rfl⟩
  have b1 : Below w.heap.size w W1 := by rw [← hW1]; exact (Below.refl _ _).alloc (Nat.le_refl _) _
  have y1 : BoxEd w.heap.size e.log e.next e.seq (.slice aa e.add.length ac) (.slice da e.drop.length dc) W1 := by rw [← hW1]; exact new_block _ _ rfl
  have c3 := y1.c3
  have c4 := y1.c4
  have d1 : decide ((e.add.length : Int) ≤ 10000) = true := decide_eq_true (by omega)
  have d2 : decide ((e.drop.length : Int) ≤ 10000) = true := decide_eq_true (by omega)
  have d3 : decide (e.add.length ≤ 10000) = true := decide_eq_true h1
  have d4 : decide (e.drop.length ≤ 10000) = true := decide_eq_true h2
  go_enter Tryz.func41, Tryz.ntmps41
  go_upto_region 1 with fail
  try rw [hW1]
  clear hW1
  go_wp2_with fail
  go_ret
  exact ⟨rfl, b1⟩
section
variable {s s1 s2 sr : St} {m mr : Mf} {e : Ed} {b : List UInt8} {er : Int}
theorem addOn_1 (h : (s.append (nmM m.num) (frames [putE e])).2 ≠ 0) : addOn s m e = ((s.append (nmM m.num) (frames [putE e])).1, (s.append (nmM m.num) (frames [putE e])).2, m) := by
  unfold addOn
  simp only
  rw [seqS_no h, if_pos h]
theorem addOn_2 (c : s.append (nmM m.num) (frames [putE e]) = (s1, 0)) (h : (s1.sync (nmM m.num)).2 ≠ 0) : addOn s m e = ((s1.sync (nmM m.num)).1, (s1.sync (nmM m.num)).2, m) := by
  unfold addOn
  simp only
  rw [c, seqS_ok, if_pos h]
theorem addOn_3 (c : s.append (nmM m.num) (frames [putE e]) = (s1, 0)) (d : s1.sync (nmM m.num) = (s2, 0)) (hr : s2.read (nmM m.num) = (b, er)) (h : er ≠ 0 ∨ b.length ≤ 20000) : addOn s m e = (s2, er, ⟨m.num, nextV m.v e⟩) := by
  unfold addOn
  simp only
  rw [c, seqS_ok, d, if_neg (by simp), hr]
  simp only
  rw [if_pos h]
theorem addOn_4 (c : s.append (nmM m.num) (frames [putE e]) = (s1, 0)) (d : s1.sync (nmM m.num) = (s2, 0)) (hr : s2.read (nmM m.num) = (b, 0)) (h : ¬ b.length ≤ 20000) : addOn s m e = anewM s2 ⟨m.num, nextV m.v e⟩ (nextV m.v e) := by
  unfold addOn
  simp only
  rw [c, seqS_ok, d, if_neg (by simp), hr]
  simp only
  rw [if_neg (by simp; omega)]
end
section
variable {F : Nat → Prop} {B p n m : Nat} {s : St} {w : World}
set_option maxHeartbeats 8000000 in
set_option maxRecDepth 100000 in
theorem madd_any (h : Hs F B p n m s w) (hN : n ≤ 50000) (hM : m ≤ 700000000) (M : Nat) (mf : Mf) (hmn : mf.num < 100000000) (vv0 : Value) (brk : Bool) (hA : ManAt w M p mf vv0 brk) (hFM : F M) (hBM : B ≤ M) (e : Ed) (PB : ByteArray) (hPl : PB.data.toList = putE e) (hPs : PB.size ≤ 10000000)
    (v : Vr) (hve : nextV mf.v e = v) (a : Option Addr) (c : Nat) (Q : Nat → Prop) (hT : RowQ Q w (.slice a v.ts.length c) v.ts) (hQF : ∀ j, Q j → F j ∧ j ≠ M) (hv : RightV v) (hl : v.ts.length ≤ 10000) (K : Nat) (hK : (wholeB v.up).length ≤ K) (sr : St) (er : Int) (mr : Mf) (hr : addOn s mf e = (sr, er, mr)) :
    Calls Tryz.prog 42 #[.pointer (some ⟨M, 0, none⟩), .string PB, .agg #[.int .i64 v.log, .int .i64 v.next, .int .u64 (v.seq : Int), .slice a v.ts.length c]] w fun x w' => x = .returned (.int .i64 er) ∧
      ∃ vv', ManR F B p (n + 24) (m + (8 + PB.size) + K + 9) M sr mr vv' brk w w' ∧ ((er ≠ 0 ∧ mr = mf ∧ vv' = vv0) ∨ (mr.v.ts = v.ts ∧ vv' = .slice a v.ts.length c)) := by
  obtain ⟨W1, hW1⟩ : ∃ W1, w.alloc (.cells #[.int .i64 v.log, .int .i64 v.next, .int .u64 (v.seq : Int), .slice a v.ts.length c] 63) = W1 := ⟨_, rfl⟩
  obtain ⟨X, hX⟩ : ∃ X, w.heap.size = X := ⟨_, rfl⟩
  have b1 : Below w.heap.size w W1 := by rw [← hW1]; exact (Below.refl _ _).alloc (Nat.le_refl _) _
  have x1 : BoxV X v.log v.next v.seq (.slice a v.ts.length c) W1 := by rw [← hX, ← hW1]; exact new_block _ _ rfl
  have CN := Lib.hid (mname_any (mf.num : Int) W1 (by omega) (by omega))
  rw [show ((mf.num : Int) % 100000000).toNat = mf.num by omega] at CN
  obtain ⟨NM, hNM⟩ : ∃ NM : ByteArray, ⟨(nmM mf.num).toArray⟩ = NM := ⟨_, rfl⟩
  have hNs : NM.size = 9 := by rw [← hNM]; rfl
  have hNl : NM.data.toList = nmM mf.num := by rw [← hNM]
  have hNx : NM.size ≤ maxLen := by unfold maxLen; omega
  rw [hNM] at CN
  obtain ⟨FR, hFR⟩ : ∃ FR : ByteArray, (⟨(frames (texts [PB])).toArray⟩ : ByteArray) = FR := ⟨_, rfl⟩
  have hFl : FR.data.toList = frames [putE e] := by rw [← hFR, List.toList_toArray, ← hPl]; rfl
  have hFs : FR.size = 8 + PB.size := by
    rw [← hFR, show (⟨(frames (texts [PB])).toArray⟩ : ByteArray).size = (frames (texts [PB])).length by simp [ByteArray.size], frames_length [PB]]
    simp [total]
  have CF := Lib.hid (show ∀ (b : Nat) (W : World), W.cell? ⟨b, 0, none⟩ = some (.string PB) → Calls Tryz.prog 157 #[.slice (some ⟨b, 0, none⟩) 1 1] W fun e w' => e = .returned (.string FR) ∧ Below W.heap.size W w' from fun b W hc => by
    rw [← hFR]
    exact frame_rows b 0 1 [PB] W (World.block_lt_of_cell? W _ hc) (by simp) (by simp [total]; omega) (fun i hi => by
      obtain rfl : i = 0 := by simp at hi; omega
      exact hc))
  have CA := Lib.hid (fun (W : World) (h : Hs (fun k => F k ∨ k = X) B p n m s W) => hs_append h (by omega) NM hNx FR (by omega) (by omega))
  rw [hNl, hFl, hFs] at CA
  have CS := Lib.hid (fun (W : World) (s : St) (h : Hs (fun k => F k ∨ k = X) B p (n + 1) (m + (8 + PB.size)) s W) => hs_sync h (by omega) NM hNx)
  have CR := Lib.hid (fun (W : World) (s : St) (h : Hs (fun k => F k ∨ k = X) B p (n + 2) (m + (8 + PB.size)) s W) => hs_read h NM hNx)
  rw [hNl] at CS CR
  have hs1 : Hs (fun k => F k ∨ k = X) B p n m s W1 := h.below b1 (fun k hk => hk.elim .inl (fun e => .inr ⟨by omega, by rw [e]; exact x1.lt⟩))
  have mn1 := hA.kept (b1.block M hA.lt)
  have hMX : M ≠ X := by have := hA.lt; omega
  have c1 := mn1.c1
  have HB1 := Lib.hid b1
  have HXE := Lib.hid hX
  have HR := Lib.hid hr
  have HBS := Lib.hid h.size
  have HLT := Lib.hid h.lt
  have HH := Lib.hid (And.intro hs1 (And.intro mn1 x1))
  have HT := Lib.hid hT
  have HVE := Lib.hid hve
  clear h hA hT hr b1 x1 hs1 mn1 hNM hNl hFR hFl hFs hPl hX hve
  go_enter Tryz.func42, Tryz.ntmps42
  go_upto_region 1 with fail
  try rw [hW1]
  try rw [HXE.out]
  clear hW1
  go_wp2_with fail
  go_at_call 38
  (with_reducible refine CN.out.mono ?_)
  rintro _ w2 ⟨rfl, b2⟩
  obtain ⟨g1, g2, g3⟩ := HH.out
  have hs2 := g1.same b2
  have mn2 := g2.kept (b2.block M g2.lt)
  have x2 := g3.below b2
  have hb2 := HB1.out.trans (b2.mono HB1.out.size)
  have hm2 := mn2.lt
  have hx2 := x2.lt
  rcases hap : s.append (nmM mf.num) (frames [putE e]) with ⟨s1, e1⟩
  rw [hap] at CA
  simp only at CA
  have HAP := Lib.hid hap
  have HK := Lib.hid (fun (W w3 : World) (b3 : Below W.heap.size W w3) (hW : Below w2.heap.size w2 W) => (show Hs (fun k => F k ∨ k = X) B p n m s w3 ∧ ManAt w3 M p mf vv0 brk ∧ Below w2.heap.size w2 w3 by
    have hb := hW.trans (b3.mono hW.size)
    exact ⟨hs2.same hb, mn2.kept (hb.block M hm2), hb⟩))
  have HF := Lib.hid (fun (w3 w4 : World) (q : Hs (fun k => F k ∨ k = X) B p n m s w3 ∧ ManAt w3 M p mf vv0 brk ∧ Below w2.heap.size w2 w3) (h4 : Hs (fun k => F k ∨ k = X) B p (n + 1) (m + (8 + PB.size)) s1 w4) (b4 : Below B w3 w4) (k4 : Kp (fun k => F k ∨ k = X) w3 w4) => (show Hid (MidR F X B p (n + 1) (m + (8 + PB.size)) M s1 mf vv0 brk w w4 ∧ BoxV X v.log v.next v.seq (.slice a v.ts.length c) w4) from Lib.hid (by
    have hb3 : Below w.heap.size w w3 := hb2.trans (q.2.2.mono hb2.size)
    exact ⟨⟨h4, q.2.1.kept (k4 M (.inl hFM)), (hb3.mono HBS.out).trans b4, fun k hk _ => (k4 k (.inl hk)).trans (hb3.block k (HLT.out k hk))⟩, (k4 X (.inr rfl)).trans ((q.2.2.block X hx2).trans x2)⟩)))
  have HNC := Lib.hid (show (w2.alloc (.cells #[.string PB] 9)).drew.cell? ⟨w2.heap.size, 0, none⟩ = some (.string PB) from (ncell rfl rfl : (w2.alloc (.cells #[.string PB] 9)).cell? ⟨w2.heap.size, 0, none⟩ = some (.string PB)))
  have HNB := Lib.hid (show Below w2.heap.size w2 (w2.alloc (.cells #[.string PB] 9)).drew from ((Below.refl _ _).alloc (Nat.le_refl _) _).drew)
  have c0 := mn2.c0
  clear g1 g2 g3 b2 hs2 mn2 x2 hb2 hap HH c1 CN
  go_upto_region 2 with fail
  go_cut [8] (fun v' wx => v' = .int .i64 e1 ∧ Hid (MidR F X B p (n + 1) (m + (8 + PB.size)) M s1 mf vv0 brk w wx ∧ BoxV X v.log v.next v.seq (.slice a v.ts.length c) wx))
  case first =>
    go_region_with (first
      | (go_at_call 157; (with_reducible refine (CF.out _ _ HNC.out).mono ?_); rintro _ w3 ⟨rfl, b3⟩; have q3 := HK.out _ _ b3 HNB.out; have c3 := q3.2.1.c0)
      | (go_at_call 34; (with_reducible refine (CA.out _ q3.1).mono ?_); rintro _ w4 ⟨rfl, h4, b4, k4⟩)
      | fail)
    all_goals (go_wp2_with fail; go_meet; exact ⟨rfl, HF.out _ _ q3 h4 b4 k4⟩)
  case rest =>
    obtain ⟨rfl, HC⟩ := hcut
    have HM1 := Lib.hid HC.out.1
    have HV1 := Lib.hid HC.out.2
    clear HC HF HK CF CA c0 HNC HNB
    by_cases he : e1 = 0
    rotate_left
    · have heb : (e1 != 0) = true := by simpa using he
      have hq := HR.out
      rw [addOn_1 (by rw [HAP.out]; exact he), HAP.out] at hq
      obtain ⟨rfl, hq2⟩ := Prod.mk.inj hq
      obtain ⟨rfl, rfl⟩ := Prod.mk.inj hq2
      clear CS CR hq hq2
      go_wp2_with fail
      go_ret
      exact ⟨rfl, vv0, HM1.out.r.up (by omega) (by omega), .inl (by first | rfl | exact ⟨he, rfl, rfl⟩)⟩
    subst he
    have c0 := HM1.out.man.c0
    rcases hsd : s1.sync (nmM mf.num) with ⟨s2, e2⟩
    have CS' := Lib.hid (CS.out _ s1 HM1.out.hs)
    rw [hsd] at CS'
    simp only at CS'
    have HSD := Lib.hid hsd
    clear hsd CS
    go_wp2_with fail
    go_at_call 61
    (with_reducible refine CS'.out.mono ?_)
    rintro _ w5 ⟨rfl, h5, b5, k5⟩
    have HM2 := Lib.hid (HM1.out.then h5 b5 k5 hFM)
    have HV2 := Lib.hid (show BoxV X v.log v.next v.seq (.slice a v.ts.length c) w5 from (k5 X (.inr rfl)).trans HV1.out)
    clear h5 b5 k5 CS' HV1 c0
    by_cases he : e2 = 0
    rotate_left
    · have heb : (e2 != 0) = true := by simpa using he
      have hq := HR.out
      rw [addOn_2 HAP.out (by rw [HSD.out]; exact he), HSD.out] at hq
      obtain ⟨rfl, hq2⟩ := Prod.mk.inj hq
      obtain ⟨rfl, rfl⟩ := Prod.mk.inj hq2
      clear CR hq hq2
      go_wp2_with fail
      go_ret
      exact ⟨rfl, vv0, HM2.out.r.up (by omega) (by omega), .inl (by first | rfl | exact ⟨he, rfl, rfl⟩)⟩
    subst he
    obtain ⟨W6, hW6⟩ : ∃ W6, (((w5.setCell ⟨M, 2, none⟩ (.int .i64 v.log)).setCell ⟨M, 3, none⟩ (.int .i64 v.next)).setCell ⟨M, 4, none⟩ (.int .u64 (v.seq : Int))).setCell ⟨M, 5, none⟩ (.slice a v.ts.length c) = W6 := ⟨_, rfl⟩
    have hr6 := HM2.out.r.setVer hFM hBM v (.slice a v.ts.length c)
    unfold verW at hr6
    rw [hW6] at hr6
    have st6 : ∀ j, j ≠ M → W6.heap[j]? = w5.heap[j]? := fun j hj => by rw [← hW6, set_block _ _ _ _ _ hj, set_block _ _ _ _ _ hj, set_block _ _ _ _ _ hj, set_block _ _ _ _ _ hj]
    have sz6 : W6.heap.size = w5.heap.size := by rw [← hW6]; simp [World.setCell]
    have hs6 : Hs (fun k => F k ∨ k = X) B p (n + 2) (m + (8 + PB.size)) s2 W6 := HM2.out.hs.wrote (Nat.le_of_eq sz6.symm) (fun j _ hj => st6 j (fun e => hj (.inl (e ▸ hFM))))
    have HX6 := Lib.hid (show BoxV X v.log v.next v.seq (.slice a v.ts.length c) W6 from (st6 X hMX.symm).trans HV2.out)
    have HT6 := Lib.hid (show TbsV W6 (.slice a v.ts.length c) v.ts from (HT.out.kept fun j hj => hr6.kp j (hQF j hj).1 (hQF j hj).2).row.v)
    rcases hrd : s2.read (nmM mf.num) with ⟨rb, re⟩
    have CR' := Lib.hid (CR.out W6 s2 hs6)
    rw [hrd] at CR'
    unfold readV at CR'
    simp only at CR'
    have HRD := Lib.hid hrd
    have HR6 := Lib.hid hr6
    have mn := HM2.out.man
    have c0 := mn.c0
    have c2 := mn.c2
    have c3 := mn.c3
    have c4 := mn.c4
    have c5 := mn.c5
    have f2 := mn.f 2
    have f3 := mn.f 3
    have f4 := mn.f 4
    have f5 := mn.f 5
    have x0 := HV2.out.c0
    have x1 := HV2.out.c1
    have x2 := HV2.out.c2
    have x3 := HV2.out.c3
    have hXM : X ≠ M := hMX.symm
    have HW6 := Lib.hid hW6
    have HS6 := Lib.hid hs6
    clear hW6 hr6 st6 sz6 hs6 hrd CR mn
    go_upto_region 9 with fail
    rw [HW6.out]
    clear c0 c2 c3 c4 c5 f2 f3 f4 f5 x0 x1 x2 x3 HW6
    have c0 := HR6.out.man.c0
    go_wp2_with fail
    go_at_call 32
    (with_reducible refine CR'.out.mono ?_)
    rintro _ _ ⟨rfl, rfl⟩
    have hq := HR.out
    have h4 : re ≠ 0 ∨ rb.length ≤ 20000 → addOn s mf e = (s2, re, ⟨mf.num, v⟩) := fun h => by rw [← HVE.out]; exact addOn_3 HAP.out HSD.out HRD.out h
    have h5 : re = 0 → ¬ rb.length ≤ 20000 → addOn s mf e = anewM s2 ⟨mf.num, v⟩ v := fun h1 h2 => by rw [← HVE.out]; exact addOn_4 HAP.out HSD.out (by rw [HRD.out, h1]) h2
    obtain ⟨BT, hBT⟩ : ∃ BT : ByteArray, (⟨rb.toArray⟩ : ByteArray) = BT := ⟨_, rfl⟩
    have hBs : BT.size = rb.length := by rw [← hBT]; simp [ByteArray.size]
    rw [hBT]
    have HEND := Lib.hid (show re ≠ 0 ∨ rb.length ≤ 20000 → ∃ vv', ManR F B p (n + 24) (m + (8 + PB.size) + K + 9) M sr mr vv' brk w W6 ∧ ((er ≠ 0 ∧ mr = mf ∧ vv' = vv0) ∨ (mr.v.ts = v.ts ∧ vv' = .slice a v.ts.length c)) ∧ re = er from fun h => by
      rw [h4 h] at hq
      obtain ⟨rfl, hq2⟩ := Prod.mk.inj hq
      obtain ⟨rfl, rfl⟩ := Prod.mk.inj hq2
      exact ⟨_, HR6.out.up (by omega) (by omega), .inr ⟨rfl, rfl⟩, rfl⟩)
    clear CR' hBT HRD
    by_cases hz : re = 0
    rotate_left
    · have heb : (re != 0) = true := by simpa using hz
      obtain ⟨vv', q1, q2, rfl⟩ := HEND.out (.inl hz)
      have HQ := Lib.hid (And.intro q1 q2)
      clear hq h4 h5 q1 q2 HEND
      go_wp2_with fail
      go_ret
      exact ⟨rfl, vv', HQ.out.1, by have := HQ.out.2; first | exact this | (rcases this with ⟨-, h, h'⟩ | h <;> first | exact .inl ⟨h, h'⟩ | exact .inr h)⟩
    subst hz
    by_cases hlen : rb.length ≤ 20000
    · have d1 : decide ((BT.size : Int) ≤ 20000) = true := by rw [hBs]; exact decide_eq_true (by omega)
      have d2 : decide (BT.size ≤ 20000) = true := by rw [hBs]; exact decide_eq_true hlen
      obtain ⟨vv', q1, q2, h0⟩ := HEND.out (.inr hlen)
      subst h0
      have HQ := Lib.hid (And.intro q1 q2)
      clear hq h4 h5 q1 q2 HEND hlen hBs
      go_wp2_with fail
      go_ret
      exact ⟨rfl, vv', HQ.out.1, by have := HQ.out.2; first | exact this | (rcases this with ⟨h, -, -⟩ | h; exact absurd rfl h; exact h)⟩
    · have d1 : decide ((BT.size : Int) ≤ 20000) = false := by rw [hBs]; exact decide_eq_false (by omega)
      have d2 : decide (BT.size ≤ 20000) = false := by rw [hBs]; exact decide_eq_false hlen
      rw [h5 rfl hlen] at hq
      have hs6 : Hs (fun k => F k ∨ k = X) B p (n + 2) (m + (8 + PB.size)) s2 W6 := HS6.out
      have CL := Lib.hid (manew_any hs6 (by omega) (by omega) M ⟨mf.num, v⟩ hmn (.slice a v.ts.length c) brk HR6.out.man (.inl hFM) hBM v a c HT6.out hv hl K hK sr er mr hq)
      have HTS := Lib.hid (show er = 0 → mr.v.ts = v.ts from fun h => anewM_ts (by rw [hq, h]))
      have y0 := HX6.out.c0
      have y1 := HX6.out.c1
      have y2 := HX6.out.c2
      have y3 := HX6.out.c3
      clear hq h4 h5 HEND hlen hBs hs6
      go_wp2_with fail
      go_at_call 43
      (with_reducible refine CL.out.mono ?_)
      rintro _ w7 ⟨rfl, hc⟩
      have HC := Lib.hid (show ∃ vv', ManR F B p (n + 24) (m + (8 + PB.size) + K + 9) M sr mr vv' brk w w7 ∧ ((er ≠ 0 ∧ mr = mf ∧ vv' = vv0) ∨ (mr.v.ts = v.ts ∧ vv' = .slice a v.ts.length c)) from by
        rcases hc with ⟨hz, rfl, q⟩ | ⟨hz, q⟩
        · exact ⟨_, ⟨(q.hs.up (by omega) (by omega)).fewer fun _ hj => .inl hj, q.man, HR6.out.bel.trans q.bel, fun j hj hne => (q.kp j (.inl hj) hne).trans (HR6.out.kp j hj hne)⟩, .inr ⟨rfl, rfl⟩⟩
        · exact ⟨_, ⟨(q.hs.up (by omega) (by omega)).fewer fun _ hj => .inl hj, q.man, HR6.out.bel.trans q.bel, fun j hj hne => (q.kp j (.inl hj) hne).trans (HR6.out.kp j hj hne)⟩, .inr ⟨HTS.out hz, rfl⟩⟩)
      clear hc CL HTS
      go_wp2_with fail
      go_ret
      exact ⟨rfl, HC.out⟩
end
end Go.Proofs.YtlecffpjcjlabaaGreat

namespace Go.Proofs.YtlecffpjcjlabaaGreat
open Go.RowKit Go.Shelf

section
variable {s sr : St} {m mr : Mf} {e : Ed} {er : Int} {br : Bool}
theorem addM_1 (h : canB e = false) : addM s m false e = (s, 1, m, false) := by
  unfold addM
  rw [if_neg (by simp), if_pos h]
theorem addM_2 (h : canB e = true) (h2 : appliesB m.v e = false) : addM s m false e = (s, 4, m, false) := by
  unfold addM
  rw [if_neg (by simp), if_neg (by rw [h]; simp), if_pos h2]
theorem addM_3 (h : canB e = true) (h2 : appliesB m.v e = true) : addM s m false e = ((addOn s m e).1, (addOn s m e).2.1, (addOn s m e).2.2, decide ((addOn s m e).2.1 ≠ 0)) := by
  unfold addM
  rw [if_neg (by simp), if_neg (by rw [h]; simp), if_neg (by rw [h2]; simp)]
end
/-- What is known behind Add: the tables are the old ones as they were, or lie in new blocks Q. -/
structure AddQ (F Q : Nat → Prop) (B p n m M : Nat) (s' : St) (mf mr : Mf) (a0 : Option Addr) (c0 : Nat) (a : Option Addr) (c : Nat) (brk : Bool) (w w' : World) : Prop where
  hs : Hs (fun j => F j ∨ Q j) B p n m s' w'
  man : ManAt w' M p mr (.slice a mr.v.ts.length c) brk
  bel : Below B w w'
  kp : ∀ k, F k → k ≠ M → w'.heap[k]? = w.heap[k]?
  row : (mr = mf ∧ a = a0 ∧ c = c0) ∨ RowQ Q w' (.slice a mr.v.ts.length c) mr.v.ts
  new : ∀ j, Q j → w.heap.size ≤ j
section
variable {F : Nat → Prop} {B p n m : Nat} {s : St} {w : World}
theorem addQ_old {M : Nat} {mf : Mf} {a0 : Option Addr} {c0 : Nat} {brk : Bool} {s' : St} {w' : World} (h : ManR F B p n m M s' mf (.slice a0 mf.v.ts.length c0) brk w w') : AddQ F (fun _ => False) B p n m M s' mf mf a0 c0 a0 c0 brk w w' :=
  ⟨h.hs.fewer fun _ hj => hj.elim id False.elim, h.man, h.bel, h.kp, .inl ⟨rfl, rfl, rfl⟩, fun _ hj => hj.elim⟩
set_option maxHeartbeats 8000000 in
set_option maxRecDepth 100000 in
theorem mAdd_any (h : Hs F B p n m s w) (hN : n ≤ 50000) (hM : m ≤ 600000000) (M : Nat) (mf : Mf) (hmn : mf.num < 100000000) (a0 : Option Addr) (c0 : Nat) (hA : ManAt w M p mf (.slice a0 mf.v.ts.length c0) false) (hFM : F M) (hBM : B ≤ M) (hT0 : TbsV w (.slice a0 mf.v.ts.length c0) mf.v.ts) (hv0 : WayV mf.v) (hl0 : mf.v.ts.length ≤ 10000)
    (e : Ed) (aa : Option Addr) (ac : Nat) (da : Option Addr) (dc : Nat) (hEA : TbsV w (.slice aa e.add.length ac) e.add) (hED : IntsV w (.slice da e.drop.length dc) e.drop) (he : e.Ok) (L : Nat) (hL : canB e = true → (putE e).length ≤ L) (hL2 : L ≤ 10000000) (hl : (nextV mf.v e).ts.length ≤ 10000) (K : Nat) (hK : (wholeB (nextV mf.v e).up).length ≤ K)
    (sr : St) (er : Int) (mr : Mf) (br : Bool) (hr : addM s mf false e = (sr, er, mr, br)) :
    Calls Tryz.prog 12 #[.pointer (some ⟨M, 0, none⟩), .agg #[.int .i64 e.log, .int .i64 e.next, .int .u64 (e.seq : Int), .slice aa e.add.length ac, .slice da e.drop.length dc]] w fun x w' => x = .returned (.int .i64 er) ∧
      ∃ a c Q, AddQ F Q B p (n + 24) (m + (8 + L) + K + 9) M sr mf mr a0 c0 a c br w w' := by
  obtain ⟨W1, hW1⟩ : ∃ W1, w.alloc (.cells #[.int .i64 e.log, .int .i64 e.next, .int .u64 (e.seq : Int), .slice aa e.add.length ac, .slice da e.drop.length dc] 52) = W1 := ⟨_, rfl⟩
  obtain ⟨X, hX⟩ : ∃ X, w.heap.size = X := ⟨_, rfl⟩
  have b1 : Below w.heap.size w W1 := by rw [← hW1]; exact (Below.refl _ _).alloc (Nat.le_refl _) _
  have y1 : BoxEd X e.log e.next e.seq (.slice aa e.add.length ac) (.slice da e.drop.length dc) W1 := by rw [← hX, ← hW1]; exact new_block _ _ rfl
  have mn1 := hA.kept (b1.block M hA.lt)
  have CI := Lib.hid (mnone_no mn1)
  have CP := Lib.hid (put_any e (.slice aa e.add.length ac) (.slice da e.drop.length dc) W1 (hEA.below b1) (hED.below b1) he)
  unfold ediV PutV at CP
  have e0 := y1.c0
  have e1 := y1.c1
  have e2 := y1.c2
  have e3 := y1.c3
  have e4 := y1.c4
  have c6 := mn1.c6
  have HXE := Lib.hid hX
  have hR1 : ManR F B p n m M s mf (.slice a0 mf.v.ts.length c0) false w W1 := manR_of ((FsV.refl h).made b1) hA hFM
  have HR1 := Lib.hid hR1
  have HB1 := Lib.hid b1
  have HBW := Lib.hid h.size
  have HLT := Lib.hid h.lt
  have HHs := Lib.hid h
  have HY1 := Lib.hid y1
  have HM1 := Lib.hid mn1
  have HIN := Lib.hid (And.intro hT0 (And.intro hEA hED))
  have HOK := Lib.hid he
  have HR := Lib.hid hr
  by_cases hc : canB e = true
  rotate_left
  · have hcf : canB e = false := by simpa using hc
    rw [hcf] at CP
    have hq := HR.out
    rw [addM_1 hcf] at hq
    obtain ⟨rfl, hq2⟩ := Prod.mk.inj hq
    obtain ⟨rfl, hq3⟩ := Prod.mk.inj hq2
    obtain ⟨rfl, rfl⟩ := Prod.mk.inj hq3
    clear h hA hT0 hEA hED he hr hR1 y1 mn1 b1 hX hq hq2 hq3 hc hcf hL
    go_enter Tryz.func12, Tryz.ntmps12
    go_upto_region 1 with fail
    try rw [hW1]
    try rw [HXE.out]
    clear hW1
    go_wp2_with (first | (go_at_call 39; (with_reducible refine CI.out.mono ?_); rintro _ _ ⟨rfl, rfl⟩) | (go_at_call 40; (with_reducible refine CP.out.mono ?_); rintro _ w2 ⟨rfl, b2⟩) | fail)
    go_ret
    exact ⟨rfl, a0, c0, _, addQ_old ((HR1.out.made b2).up (by omega) (by omega))⟩
  rw [hc] at CP
  have hpl := hL hc
  obtain ⟨PB, hPB⟩ : ∃ PB : ByteArray, (⟨(putE e).toArray⟩ : ByteArray) = PB := ⟨_, rfl⟩
  have hPl : PB.data.toList = putE e := by rw [← hPB]
  have hPs : PB.size = (putE e).length := by rw [← hPB]; simp [ByteArray.size]
  simp only [if_true] at CP
  rw [hPB] at CP
  obtain ⟨-, -, -, hla, hld, hoka, hokd⟩ := he
  have CRD := Lib.hid (fun W => readable_any e aa ac da dc W hla hld)
  have hv0ok := hv0.ok
  have HCA := Lib.hid (fun (W : World) (hb : Below w.heap.size w W) => apply_any mf.v e (.slice a0 mf.v.ts.length c0) (.slice aa e.add.length ac) (.slice da e.drop.length dc) W (HIN.out.1.below hb) (HIN.out.2.1.below hb) (HIN.out.2.2.below hb) hl0 hla hld hv0ok hoka hokd)
  unfold verV ediV at HCA
  by_cases ha : appliesB mf.v e = true
  rotate_left
  · have hna : ¬ Applies mf.v e := fun h => ha (appliesB_iff.2 h)
    have haf : appliesB mf.v e = false := by simpa using ha
    have hq := HR.out
    rw [addM_2 hc haf] at hq
    obtain ⟨rfl, hq2⟩ := Prod.mk.inj hq
    obtain ⟨rfl, hq3⟩ := Prod.mk.inj hq2
    obtain ⟨rfl, rfl⟩ := Prod.mk.inj hq3
    have HCA' := Lib.hid (show ∀ W, Below w.heap.size w W → Calls Tryz.prog 28 _ W fun x w' => x = .returned (.tuple #[.agg #[.int .i64 0, .int .i64 0, .int .u64 0, .slice none 0 0], .int .i64 4]) ∧ Below W.heap.size W w' from fun W hb => (HCA.out W hb).mono fun x w' h => by
      obtain ⟨h1, h2⟩ := h
      rcases h1 with ⟨-, h1⟩ | ⟨h1, -⟩
      · exact ⟨h1, h2⟩
      · exact absurd h1 hna)
    clear h hA hT0 hEA hED hr hR1 y1 mn1 b1 hX hq hq2 hq3 hc hL ha hna haf hPB hPl hPs hpl HCA hv0ok hoka hokd CRD
    go_enter Tryz.func12, Tryz.ntmps12
    go_upto_region 1 with fail
    try rw [hW1]
    try rw [HXE.out]
    clear hW1
    go_wp2_with fail
    go_at_call 39
    (with_reducible refine CI.out.mono ?_)
    rintro _ _ ⟨rfl, rfl⟩
    go_wp2_with fail
    go_at_call 40
    (with_reducible refine CP.out.mono ?_)
    rintro _ w2 ⟨rfl, b2⟩
    have mn2 := HM1.out.kept (b2.block M HM1.out.lt)
    have y2 := HY1.out.below b2
    have c2 := mn2.c2
    have c3 := mn2.c3
    have c4 := mn2.c4
    have c5 := mn2.c5
    have e0 := y2.c0
    have e1 := y2.c1
    have e2 := y2.c2
    have e3 := y2.c3
    have e4 := y2.c4
    have HR2 := Lib.hid (HR1.out.made b2)
    have hm2 := mn2.lt
    have hx2 := y2.lt
    have HQ := Lib.hid (show ∀ W', Below w2.heap.size w2 W' → W'.cell? ⟨M, 2, none⟩ = some (.int .i64 mf.v.log) ∧ W'.cell? ⟨M, 3, none⟩ = some (.int .i64 mf.v.next) ∧ W'.cell? ⟨M, 4, none⟩ = some (.int .u64 (mf.v.seq : Int)) ∧ W'.cell? ⟨M, 5, none⟩ = some (.slice a0 mf.v.ts.length c0) ∧ W'.cell? ⟨X, 0, none⟩ = some (.int .i64 e.log) ∧ W'.cell? ⟨X, 1, none⟩ = some (.int .i64 e.next) ∧ W'.cell? ⟨X, 2, none⟩ = some (.int .u64 (e.seq : Int)) ∧ W'.cell? ⟨X, 3, none⟩ = some (.slice aa e.add.length ac) ∧ W'.cell? ⟨X, 4, none⟩ = some (.slice da e.drop.length dc) from fun W' hb => by
      have m' := mn2.kept (hb.block M hm2)
      have y' := y2.below hb
      exact ⟨m'.c2, m'.c3, m'.c4, m'.c5, y'.c0, y'.c1, y'.c2, y'.c3, y'.c4⟩)
    have H02 := Lib.hid (HB1.out.trans (b2.mono HB1.out.size))
    have HBC := Lib.hid (show Below w2.heap.size w2 (w2.alloc (.cells #[.int .i64 0, .int .i64 0, .int .u64 0, .slice none 0 0] 63)).drew from ((Below.refl _ _).alloc (Nat.le_refl _) _).drew)
    have HBA := Lib.hid (show Below w.heap.size w (w2.alloc (.cells #[.int .i64 0, .int .i64 0, .int .u64 0, .slice none 0 0] 63)).drew from H02.out.trans (HBC.out.mono H02.out.size))
    have HZA := Lib.hid (show BoxV w2.heap.size 0 0 0 (.slice none 0 0) (w2.alloc (.cells #[.int .i64 0, .int .i64 0, .int .u64 0, .slice none 0 0] 63)).drew from (new_block _ _ rfl : (w2.alloc (.cells #[.int .i64 0, .int .i64 0, .int .u64 0, .slice none 0 0] 63)).heap[w2.heap.size]? = _))
    clear mn2 y2 b2 CI CP c6
    go_upto_region 8 with fail
    go_region_held3 (fun W' => W'.cell? ⟨M, 2, none⟩ = some (.int .i64 mf.v.log) ∧ W'.cell? ⟨M, 3, none⟩ = some (.int .i64 mf.v.next) ∧ W'.cell? ⟨M, 4, none⟩ = some (.int .u64 (mf.v.seq : Int)) ∧ W'.cell? ⟨M, 5, none⟩ = some (.slice a0 mf.v.ts.length c0) ∧ W'.cell? ⟨X, 0, none⟩ = some (.int .i64 e.log) ∧ W'.cell? ⟨X, 1, none⟩ = some (.int .i64 e.next) ∧ W'.cell? ⟨X, 2, none⟩ = some (.int .u64 (e.seq : Int)) ∧ W'.cell? ⟨X, 3, none⟩ = some (.slice aa e.add.length ac) ∧ W'.cell? ⟨X, 4, none⟩ = some (.slice da e.drop.length dc))
      (first | (go_keep; done) | exact HQ.out _ (Below.refl _ _).drew | exact HQ.out _ BB | exact HQ.out _ (BB.alloc BB.size _) | exact HQ.out _ (below_set4 BB w2.heap.size (Nat.le_refl _) _ _ _ _) | exact HQ.out _ (((Below.refl _ _).drew).alloc (Nat.le_refl _) _) | exact HQ.out _ (((Below.refl _ _).alloc (Nat.le_refl _) _).drew) | fail)
      (first
        | (go_at_call 28; (with_reducible refine (HCA'.out w2.drew H02.out.drew).mono ?_); rintro _ w3 ⟨rfl, b3⟩; have BB : Below w2.heap.size w2 w3 := (Below.refl _ _).drew.trans b3)
        | (go_at_call 28; (with_reducible refine (HCA'.out _ HBA.out).mono ?_); rintro _ w3 ⟨rfl, b3⟩; have BB : Below w2.heap.size w2 w3 := HBC.out.trans (b3.mono HBC.out.size); have zb := HZA.out.below b3; have g0 := zb.c0; have g1 := zb.c1; have g2 := zb.c2; have g3 := zb.c3; have f0 := zb.f 0; have f1 := zb.f 1; have f2 := zb.f 2; have f3 := zb.f 3)
        | fail)
    all_goals
      go_wp2_with fail
      go_ret
      refine ⟨rfl, a0, c0, _, addQ_old ((HR2.out.made ?_).up (by omega) (by omega))⟩
      first | exact BB.alloc BB.size _ | exact below_set4 BB w2.heap.size (Nat.le_refl _) _ _ _ _
  · have hap := appliesB_iff.1 ha
    have hq := HR.out
    rw [addM_3 hc ha] at hq
    obtain ⟨v, hve⟩ : ∃ v, nextV mf.v e = v := ⟨_, rfl⟩
    have hvr : RightV v := by rw [← hve]; exact hap.2
    rw [hve] at hl hK
    have HCA' := Lib.hid (show ∀ W, Below w.heap.size w W → Calls Tryz.prog 28 _ W fun x w' => ∃ ra rc, x = .returned (.tuple #[.agg #[.int .i64 v.log, .int .i64 v.next, .int .u64 (v.seq : Int), .slice ra v.ts.length rc], .int .i64 0]) ∧ RowB w' (.slice ra v.ts.length rc) v.ts ∧ (∀ k, ob (.slice ra v.ts.length rc) = some k → W.heap.size ≤ k) ∧ Below W.heap.size W w' from fun W hb => (HCA.out W hb).mono fun x w' h => by
      obtain ⟨h1, h2⟩ := h
      rcases h1 with ⟨h1, -⟩ | ⟨-, r', h1, h3, h4⟩
      · exact absurd hap h1
      · rw [hve] at h1 h3
        obtain ⟨ra, rc, rfl⟩ := h3.short
        exact ⟨ra, rc, h1, h3, h4, h2⟩)
    rcases hon : addOn s mf e with ⟨so, eo, mo⟩
    rw [hon] at hq
    simp only at hq
    have HON := Lib.hid hon
    have HVE := Lib.hid hve
    have HPL := Lib.hid hPl
    have hPs1 : PB.size ≤ L := by omega
    obtain ⟨rfl, hq2⟩ := Prod.mk.inj hq
    obtain ⟨rfl, hq3⟩ := Prod.mk.inj hq2
    obtain ⟨rfl, hbr⟩ := Prod.mk.inj hq3
    have HBR := Lib.hid hbr
    clear h hA hT0 hEA hED hr hR1 y1 mn1 b1 hX hq hq2 hq3 hc hL ha hap hPB hPl hPs hpl HCA hv0ok hoka hokd hbr hon hve
    go_enter Tryz.func12, Tryz.ntmps12
    go_upto_region 1 with fail
    try rw [hW1]
    try rw [HXE.out]
    clear hW1
    go_wp2_with fail
    go_at_call 39
    (with_reducible refine CI.out.mono ?_)
    rintro _ _ ⟨rfl, rfl⟩
    go_wp2_with fail
    go_at_call 40
    (with_reducible refine CP.out.mono ?_)
    rintro _ w2 ⟨rfl, b2⟩
    have mn2 := HM1.out.kept (b2.block M HM1.out.lt)
    have y2 := HY1.out.below b2
    have c2 := mn2.c2
    have c3 := mn2.c3
    have c4 := mn2.c4
    have c5 := mn2.c5
    have e0 := y2.c0
    have e1 := y2.c1
    have e2 := y2.c2
    have e3 := y2.c3
    have e4 := y2.c4
    have HR2 := Lib.hid (HR1.out.made b2)
    have HY2 := Lib.hid y2
    have hm2 := mn2.lt
    have hx2 := y2.lt
    have HQ := Lib.hid (show ∀ W', Below w2.heap.size w2 W' → W'.cell? ⟨M, 2, none⟩ = some (.int .i64 mf.v.log) ∧ W'.cell? ⟨M, 3, none⟩ = some (.int .i64 mf.v.next) ∧ W'.cell? ⟨M, 4, none⟩ = some (.int .u64 (mf.v.seq : Int)) ∧ W'.cell? ⟨M, 5, none⟩ = some (.slice a0 mf.v.ts.length c0) ∧ W'.cell? ⟨X, 0, none⟩ = some (.int .i64 e.log) ∧ W'.cell? ⟨X, 1, none⟩ = some (.int .i64 e.next) ∧ W'.cell? ⟨X, 2, none⟩ = some (.int .u64 (e.seq : Int)) ∧ W'.cell? ⟨X, 3, none⟩ = some (.slice aa e.add.length ac) ∧ W'.cell? ⟨X, 4, none⟩ = some (.slice da e.drop.length dc) from fun W' hb => by
      have m' := mn2.kept (hb.block M hm2)
      have y' := y2.below hb
      exact ⟨m'.c2, m'.c3, m'.c4, m'.c5, y'.c0, y'.c1, y'.c2, y'.c3, y'.c4⟩)
    have H02 := Lib.hid (HB1.out.trans (b2.mono HB1.out.size))
    have HBC := Lib.hid (show Below w2.heap.size w2 (w2.alloc (.cells #[.int .i64 0, .int .i64 0, .int .u64 0, .slice none 0 0] 63)).drew from ((Below.refl _ _).alloc (Nat.le_refl _) _).drew)
    have HBA := Lib.hid (show Below w.heap.size w (w2.alloc (.cells #[.int .i64 0, .int .i64 0, .int .u64 0, .slice none 0 0] 63)).drew from H02.out.trans (HBC.out.mono H02.out.size))
    have HZA := Lib.hid (show BoxV w2.heap.size 0 0 0 (.slice none 0 0) (w2.alloc (.cells #[.int .i64 0, .int .i64 0, .int .u64 0, .slice none 0 0] 63)).drew from (new_block _ _ rfl : (w2.alloc (.cells #[.int .i64 0, .int .i64 0, .int .u64 0, .slice none 0 0] 63)).heap[w2.heap.size]? = _))
    clear mn2 y2 b2 CI CP c6
    go_upto_region 8 with fail
    go_region_held3 (fun W' => W'.cell? ⟨M, 2, none⟩ = some (.int .i64 mf.v.log) ∧ W'.cell? ⟨M, 3, none⟩ = some (.int .i64 mf.v.next) ∧ W'.cell? ⟨M, 4, none⟩ = some (.int .u64 (mf.v.seq : Int)) ∧ W'.cell? ⟨M, 5, none⟩ = some (.slice a0 mf.v.ts.length c0) ∧ W'.cell? ⟨X, 0, none⟩ = some (.int .i64 e.log) ∧ W'.cell? ⟨X, 1, none⟩ = some (.int .i64 e.next) ∧ W'.cell? ⟨X, 2, none⟩ = some (.int .u64 (e.seq : Int)) ∧ W'.cell? ⟨X, 3, none⟩ = some (.slice aa e.add.length ac) ∧ W'.cell? ⟨X, 4, none⟩ = some (.slice da e.drop.length dc))
      (first | (go_keep; done) | exact HQ.out _ (Below.refl _ _).drew | exact HQ.out _ BB | exact HQ.out _ (BB.alloc BB.size _) | exact HQ.out _ (below_set4 BB w2.heap.size (Nat.le_refl _) _ _ _ _) | exact HQ.out _ (((Below.refl _ _).drew).alloc (Nat.le_refl _) _) | exact HQ.out _ (((Below.refl _ _).alloc (Nat.le_refl _) _).drew) | fail)
      (first
        | (go_at_call 28; (with_reducible refine (HCA'.out w2.drew H02.out.drew).mono ?_); rintro _ w3 ⟨ra, rc, rfl, hr3, ho3, b3⟩; have BB : Below w2.heap.size w2 w3 := (Below.refl _ _).drew.trans b3)
        | (go_at_call 28; (with_reducible refine (HCA'.out _ HBA.out).mono ?_); rintro _ w3 ⟨ra, rc, rfl, hr3, ho3, b3⟩; have BB : Below w2.heap.size w2 w3 := HBC.out.trans (b3.mono HBC.out.size); have zb := HZA.out.below b3; have g0 := zb.c0; have g1 := zb.c1; have g2 := zb.c2; have g3 := zb.c3; have f0 := zb.f 0; have f1 := zb.f 1; have f2 := zb.f 2; have f3 := zb.f 3)
        | fail)
    · obtain ⟨W4, hW4⟩ : ∃ W4, w3.alloc (.cells #[.int .i64 v.log, .int .i64 v.next, .int .u64 (v.seq : Int), .slice ra v.ts.length rc] 63) = W4 := ⟨_, rfl⟩
      have BB4 : Below w2.heap.size w2 W4 := by rw [← hW4]; exact BB.alloc BB.size _
      obtain ⟨Q, hQ⟩ : ∃ Q : Nat → Prop, (fun j => ob (.slice ra v.ts.length rc) = some j ∧ j < w3.heap.size) = Q := ⟨_, rfl⟩
      have hQl : ∀ j, Q j → w2.heap.size ≤ j ∧ j < w3.heap.size ∧ j ≠ w3.heap.size := by
        rw [← hQ]
        intro j hj
        have h1 := ho3 j hj.1
        have h2 := hj.2
        simp at h1
        omega
      have hrq : RowQ Q W4 (.slice ra v.ts.length rc) v.ts := by
        have h0 : RowQ Q w3 (.slice ra v.ts.length rc) v.ts := by rw [← hQ]; exact rowQ_of hr3
        exact h0.kept fun j hj => by rw [← hW4]; exact Below.heap_alloc _ _ _ ((by rw [← hQ] at hj; exact hj.2 : j < w3.heap.size))
      have y7 : BoxV w3.heap.size v.log v.next v.seq (.slice ra v.ts.length rc) W4 := by rw [← hW4]; exact new_block _ _ rfl
      have hsz4 : w3.heap.size ≤ W4.heap.size := by rw [← hW4]; simp
      have HR4 := Lib.hid (HR2.out.made BB4)
      have HS4 := Lib.hid (show Hs (fun j => F j ∨ Q j) B p n m s W4 from HR2.out.hs.below BB4 fun j hj => by
        rcases hj with hj | hj
        · exact .inl hj
        · exact .inr ⟨(hQl j hj).1, by have := hQl j hj; omega⟩)
      have y4 := HY2.out.below BB4
      have e0 := y4.c0
      have e1 := y4.c1
      have e2 := y4.c2
      have e3 := y4.c3
      have e4 := y4.c4
      have HQL := Lib.hid (show ∀ j, Q j → w.heap.size ≤ j ∧ j ≠ M from fun j hj => ⟨by have := hQl j hj; have := H02.out.size; omega, by have := hQl j hj; omega⟩)
      have HRQ := Lib.hid hrq
      have HY7 := Lib.hid y7
      have HW4 := Lib.hid hW4
      clear hW4 BB4 hQ hQl hrq y7 hsz4 y4 hr3 ho3 b3 BB HY2
      rw [HW4.out]
      clear HW4
      go_wp2_with fail
      go_at_call 41
      (with_reducible refine (CRD.out _).mono ?_)
      rintro _ w5 ⟨rfl, b5⟩
      have y5 := HY7.out.below b5
      have y0 := y5.c0
      have y1 := y5.c1
      have y2 := y5.c2
      have y3 := y5.c3
      have HS5 := Lib.hid (HS4.out.same b5)
      have HR5 := Lib.hid (HR4.out.made b5)
      have HT5 := Lib.hid (HRQ.out.kept fun j hj => b5.block j (HS4.out.lt j (.inr hj)))
      have CL := Lib.hid (madd_any HS5.out (by omega) (by omega) M mf hmn (.slice a0 mf.v.ts.length c0) false HR5.out.man (.inl hFM) hBM e PB HPL.out (by omega) v HVE.out ra rc Q HT5.out (fun j hj => ⟨.inr hj, (HQL.out j hj).2⟩) hvr hl K hK _ _ _ HON.out)
      clear y5 b5 HY7 CRD HS4 HR4 HRQ e0 e1 e2 e3 e4
      go_wp2_with fail
      go_at_call 42
      (with_reducible refine CL.out.mono ?_)
      rintro _ w6 ⟨rfl, vv', q, hvv⟩
      have c6 := q.man.c6
      have f6 := q.man.f 6
      have HQ := Lib.hid q
      have HVV := Lib.hid hvv
      clear q hvv CL y0 y1 y2 y3
      obtain ⟨a, c, hvc, hrow⟩ : ∃ a c, vv' = .slice a mo.v.ts.length c ∧ ((mo = mf ∧ a = a0 ∧ c = c0) ∨ (mo.v.ts = v.ts ∧ a = ra ∧ c = rc)) := by
        rcases HVV.out with ⟨-, h1, h2⟩ | ⟨h1, h2⟩
        · exact ⟨a0, c0, by rw [h2, h1], .inl ⟨h1, rfl, rfl⟩⟩
        · exact ⟨ra, rc, by rw [h2, h1], .inr ⟨h1, rfl, rfl⟩⟩
      subst hvc
      have HFIN := Lib.hid (fun (bb : Bool) => (show AddQ F Q B p (n + 24) (m + (8 + L) + K + 9) M so mf mo a0 c0 a c bb w (w6.setCell ⟨M, 6, none⟩ (.bool bb)) from by
        have q := HQ.out.setBrk (.inl hFM) hBM bb
        refine ⟨q.hs.up (by omega) (by omega), q.man, HR5.out.bel.trans q.bel, fun j hj hne => (q.kp j (.inl hj) hne).trans (HR5.out.kp j hj hne), ?_, fun j hj => (HQL.out j hj).1⟩
        rcases hrow with h | ⟨h1, rfl, rfl⟩
        · exact .inl h
        · right
          rw [h1]
          exact HT5.out.kept fun j hj => q.kp j (.inr hj) (HQL.out j hj).2))
      clear hrow HQ HVV HT5 HR5 HS5
      by_cases hz : eo = 0
      · subst hz
        have hb0 : br = false := by rw [← HBR.out]; exact decide_eq_false (fun h => h rfl)
        have HE := Lib.hid (show AddQ F Q B p (n + 24) (m + (8 + L) + K + 9) M so mf mo a0 c0 a c br w (w6.setCell ⟨M, 6, none⟩ (.bool false)) from by rw [hb0]; exact HFIN.out false)
        clear hb0 HFIN HBR
        go_wp2_with fail
        go_ret
        exact ⟨rfl, a, c, Q, HE.out⟩
      · have heb : (eo != 0) = true := by simpa using hz
        have hb0 : br = true := by rw [← HBR.out]; exact decide_eq_true hz
        have HE := Lib.hid (show AddQ F Q B p (n + 24) (m + (8 + L) + K + 9) M so mf mo a0 c0 a c br w (w6.setCell ⟨M, 6, none⟩ (.bool true)) from by rw [hb0]; exact HFIN.out true)
        clear hb0 HFIN HBR hz
        go_wp2_with fail
        go_ret
        exact ⟨rfl, a, c, Q, HE.out⟩
    · obtain ⟨W4, hW4⟩ : ∃ W4, set4V w3 w2.heap.size v.log v.next (v.seq : Int) (.slice ra v.ts.length rc) = W4 := ⟨_, rfl⟩
      have BB4 : Below w2.heap.size w2 W4 := by rw [← hW4]; exact set4V_below BB w2.heap.size (Nat.le_refl _) _ _ _ _
      obtain ⟨Q, hQ⟩ : ∃ Q : Nat → Prop, (fun j => ob (.slice ra v.ts.length rc) = some j ∧ j < w3.heap.size) = Q := ⟨_, rfl⟩
      have hQl : ∀ j, Q j → w2.heap.size ≤ j ∧ j < w3.heap.size ∧ j ≠ w2.heap.size := by
        rw [← hQ]
        intro j hj
        have h1 := ho3 j hj.1
        have h2 := hj.2
        simp at h1
        omega
      have hrq : RowQ Q W4 (.slice ra v.ts.length rc) v.ts := by
        have h0 : RowQ Q w3 (.slice ra v.ts.length rc) v.ts := by rw [← hQ]; exact rowQ_of hr3
        exact h0.kept fun j hj => by rw [← hW4]; exact set4V_block _ _ _ _ _ _ _ (hQl j hj).2.2
      have y7 : BoxV w2.heap.size v.log v.next v.seq (.slice ra v.ts.length rc) W4 := by rw [← hW4]; exact zb.set4 _ _ _ _
      have hsz4 : w3.heap.size ≤ W4.heap.size := by rw [← hW4]; exact Nat.le_of_eq (set4V_size _ _ _ _ _ _).symm
      have HR4 := Lib.hid (HR2.out.made BB4)
      have HS4 := Lib.hid (show Hs (fun j => F j ∨ Q j) B p n m s W4 from HR2.out.hs.below BB4 fun j hj => by
        rcases hj with hj | hj
        · exact .inl hj
        · exact .inr ⟨(hQl j hj).1, by have := hQl j hj; omega⟩)
      have y4 := HY2.out.below BB4
      have e0 := y4.c0
      have e1 := y4.c1
      have e2 := y4.c2
      have e3 := y4.c3
      have e4 := y4.c4
      have HQL := Lib.hid (show ∀ j, Q j → w.heap.size ≤ j ∧ j ≠ M from fun j hj => ⟨by have := hQl j hj; have := H02.out.size; omega, by have := hQl j hj; omega⟩)
      have HRQ := Lib.hid hrq
      have HY7 := Lib.hid y7
      unfold set4V at hW4
      have HW4 := Lib.hid hW4
      clear hW4 BB4 zb g0 g1 g2 g3 f0 f1 f2 f3 hQ hQl hrq y7 hsz4 y4 hr3 ho3 b3 BB HY2
      rw [HW4.out]
      clear HW4
      go_wp2_with fail
      go_at_call 41
      (with_reducible refine (CRD.out _).mono ?_)
      rintro _ w5 ⟨rfl, b5⟩
      have y5 := HY7.out.below b5
      have y0 := y5.c0
      have y1 := y5.c1
      have y2 := y5.c2
      have y3 := y5.c3
      have HS5 := Lib.hid (HS4.out.same b5)
      have HR5 := Lib.hid (HR4.out.made b5)
      have HT5 := Lib.hid (HRQ.out.kept fun j hj => b5.block j (HS4.out.lt j (.inr hj)))
      have CL := Lib.hid (madd_any HS5.out (by omega) (by omega) M mf hmn (.slice a0 mf.v.ts.length c0) false HR5.out.man (.inl hFM) hBM e PB HPL.out (by omega) v HVE.out ra rc Q HT5.out (fun j hj => ⟨.inr hj, (HQL.out j hj).2⟩) hvr hl K hK _ _ _ HON.out)
      clear y5 b5 HY7 CRD HS4 HR4 HRQ e0 e1 e2 e3 e4
      go_wp2_with fail
      go_at_call 42
      (with_reducible refine CL.out.mono ?_)
      rintro _ w6 ⟨rfl, vv', q, hvv⟩
      have c6 := q.man.c6
      have f6 := q.man.f 6
      have HQ := Lib.hid q
      have HVV := Lib.hid hvv
      clear q hvv CL y0 y1 y2 y3
      obtain ⟨a, c, hvc, hrow⟩ : ∃ a c, vv' = .slice a mo.v.ts.length c ∧ ((mo = mf ∧ a = a0 ∧ c = c0) ∨ (mo.v.ts = v.ts ∧ a = ra ∧ c = rc)) := by
        rcases HVV.out with ⟨-, h1, h2⟩ | ⟨h1, h2⟩
        · exact ⟨a0, c0, by rw [h2, h1], .inl ⟨h1, rfl, rfl⟩⟩
        · exact ⟨ra, rc, by rw [h2, h1], .inr ⟨h1, rfl, rfl⟩⟩
      subst hvc
      have HFIN := Lib.hid (fun (bb : Bool) => (show AddQ F Q B p (n + 24) (m + (8 + L) + K + 9) M so mf mo a0 c0 a c bb w (w6.setCell ⟨M, 6, none⟩ (.bool bb)) from by
        have q := HQ.out.setBrk (.inl hFM) hBM bb
        refine ⟨q.hs.up (by omega) (by omega), q.man, HR5.out.bel.trans q.bel, fun j hj hne => (q.kp j (.inl hj) hne).trans (HR5.out.kp j hj hne), ?_, fun j hj => (HQL.out j hj).1⟩
        rcases hrow with h | ⟨h1, rfl, rfl⟩
        · exact .inl h
        · right
          rw [h1]
          exact HT5.out.kept fun j hj => q.kp j (.inr hj) (HQL.out j hj).2))
      clear hrow HQ HVV HT5 HR5 HS5
      by_cases hz : eo = 0
      · subst hz
        have hb0 : br = false := by rw [← HBR.out]; exact decide_eq_false (fun h => h rfl)
        have HE := Lib.hid (show AddQ F Q B p (n + 24) (m + (8 + L) + K + 9) M so mf mo a0 c0 a c br w (w6.setCell ⟨M, 6, none⟩ (.bool false)) from by rw [hb0]; exact HFIN.out false)
        clear hb0 HFIN HBR
        go_wp2_with fail
        go_ret
        exact ⟨rfl, a, c, Q, HE.out⟩
      · have heb : (eo != 0) = true := by simpa using hz
        have hb0 : br = true := by rw [← HBR.out]; exact decide_eq_true hz
        have HE := Lib.hid (show AddQ F Q B p (n + 24) (m + (8 + L) + K + 9) M so mf mo a0 c0 a c br w (w6.setCell ⟨M, 6, none⟩ (.bool true)) from by rw [hb0]; exact HFIN.out true)
        clear hb0 HFIN HBR hz
        go_wp2_with fail
        go_ret
        exact ⟨rfl, a, c, Q, HE.out⟩
end
end Go.Proofs.YtlecffpjcjlabaaGreat

namespace Go.Proofs.YtlecffpjcjlabaaGreat
open Go.RowKit

def adds (es : List Ed) : Nat := (es.map fun e => e.add.length).sum
theorem adds_take (es : List Ed) (i : Nat) : adds (es.take i) ≤ adds es := by
  conv => rhs; rw [← List.take_append_drop i es]
  unfold adds
  rw [List.map_append, List.sum_append]
  omega
theorem replay_len : ∀ (es : List Ed) (v u : Vr), (∀ e ∈ es, e.Fits) → replayN v (es.map putE) = some u → u.ts.length ≤ v.ts.length + adds es
  | [], v, u, _, h => by
    obtain rfl := Option.some.inj h
    simp [adds]
  | e :: es, v, u, hf, h => by
    rw [List.map_cons, replayN_cons, getP_laid e (hf e (by simp))] at h
    split at h
    · have h1 := replay_len es _ u (fun x hx => hf x (by simp [hx])) h
      have h2 := next_len v e
      unfold adds at h1 ⊢
      rw [List.map_cons, List.sum_cons]
      simp only at h1
      omega
    · cases h
/-- The edits of a file: what they are, and how many tables they add. -/
structure EdsC (es : List Ed) (rs : List (List UInt8)) : Prop where
  eq : rs = es.map putE
  fits : ∀ e ∈ es, e.Fits
theorem EdsC.few {es : List Ed} {rs : List (List UInt8)} (h : EdsC es rs) : ∀ r ∈ rs, r.length ≤ 16777216 := fun r hr => by
  rw [h.eq] at hr
  obtain ⟨e, he, rfl⟩ := List.mem_map.1 hr
  exact putE_small (h.fits e he)
theorem EdsC.fine {es : List Ed} {rs : List (List UInt8)} (h : EdsC es rs) (hN : adds es ≤ 10000) (hn : es.length ≤ 100000000) : FineR rs := by
  refine ⟨fun r hr _ => ?_, fun i u hu => ?_, fun r hr => Nat.le_trans (h.few r hr) (by omega), by rw [h.eq, List.length_map]; exact hn⟩
  · rw [h.eq] at hr
    obtain ⟨e, he, rfl⟩ := List.mem_map.1 hr
    rw [getP_laid e (h.fits e he)]
    exact h.fits e he
  · rw [h.eq, ← List.map_take] at hu
    have := replay_len (es.take i) Vr.zero u (fun e he => h.fits e (List.mem_of_mem_take he)) hu
    have h2 := adds_take es i
    have h3 : Vr.zero.ts.length = 0 := rfl
    omega
theorem EdsC.one {v : Vr} (h : RightV v) (hl : v.ts.length ≤ 10000) : EdsC [wholeE v] [putE (wholeE v)] := ⟨rfl, fun e he => by rw [List.mem_singleton.1 he]; exact whole_fits h hl⟩
theorem EdsC.more {es : List Ed} {rs : List (List UInt8)} (h : EdsC es rs) {e : Ed} (he : e.Fits) : EdsC (es ++ [e]) (rs ++ [putE e]) := ⟨by rw [h.eq, List.map_append]; rfl, fun x hx => by
  rcases List.mem_append.1 hx with hx | hx
  · exact h.fits x hx
  · rw [List.mem_singleton.1 hx]; exact he⟩
theorem adds_more (es : List Ed) (e : Ed) : adds (es ++ [e]) = adds es + e.add.length := by simp [adds]
theorem wholeB_small {v : Vr} (h : RightV v) (hl : v.ts.length ≤ 10000) : (wholeB v).length ≤ 58 + v.ts.length * 660 := by
  have h1 := putE_len3 _ (whole_fits h hl)
  have e1 : (wholeE v).add.length = v.ts.length := rfl
  have e2 : (wholeE v).drop.length = 0 := rfl
  rw [e1, e2] at h1
  unfold wholeB
  rw [show frames [putE (wholeE v)] = frm (putE (wholeE v)) by simp [frames], frm_length]
  omega
/-- Bytes of edits that were laid, and of others behind them that are no frame. -/
theorem goodB_eds {es : List Ed} {rs : List (List UInt8)} (h : EdsC es rs) (hN : adds es ≤ 10000) (hn : es.length ≤ 100000000) (j : List UInt8) (hj : cutF j = none) (hlen : (frames rs ++ j).length ≤ 100000000) {K : Nat} (hK : ∀ v, replayM rs = some v → v.ts.length ≤ 10000 ∧ (wholeB v.up).length ≤ K) : GoodB K (frames rs ++ j) := by
  have hs := scan_app rs j h.few hj
  exact ⟨hlen, by rw [hs]; exact h.fine hN hn, by rw [hs]; exact hK⟩
section
variable {s : St} {m : Mf} {rs : List (List UInt8)} {es : List Ed}
theorem goodO_new {K : Nat} (hK : (wholeB vStart).length ≤ K) (h : (s.read curN).2 ≠ 0) : GoodO K s := ⟨hK, fun name b hr => absurd (by rw [hr]) h⟩
theorem goodO_calm {K : Nat} (hK : (wholeB vStart).length ≤ K) (h : ManiC s m rs) (he : EdsC es rs) (hN : adds es ≤ 10000) (hn : es.length ≤ 100000000) (hlen : (frames rs).length ≤ 100000000) (hl : m.v.ts.length ≤ 10000) (hK2 : (wholeB m.v.up).length ≤ K) : GoodO K s := by
  refine ⟨hK, fun name b hr => ?_⟩
  rw [read_some h.calm h.cur] at hr
  obtain ⟨rfl, -⟩ := Prod.mk.inj hr
  refine ⟨(show (9 : Nat) ≤ _ by omega), fun hb _ => ?_⟩
  obtain ⟨d1, d2, d3⟩ := syncDir_calm h.calm
  rw [read_some d2 ((d3 _).trans h.file)] at hb
  obtain ⟨rfl, -⟩ := Prod.mk.inj hb
  have := goodB_eds (K := K) he hN hn [] cutF_nil (by rw [List.append_nil]; exact hlen) (fun v hv => by
    rw [h.make] at hv
    obtain rfl := Option.some.inj hv
    exact ⟨hl, hK2⟩)
  rwa [List.append_nil] at this
end
end Go.Proofs.YtlecffpjcjlabaaGreat

namespace Go.Proofs.YtlecffpjcjlabaaGreat
open Go.RowKit Go.Shelf

def e9 : Ed := ⟨0, 9, 0, [], []⟩
theorem next9 : nextV vStart e9 = ⟨2, 9, 0, []⟩ := rfl
theorem right9 : RightV ⟨2, 9, 0, []⟩ := ⟨by decide, (fun t h => by cases h), List.Pairwise.nil⟩
theorem app9 : Applies vStart e9 := ⟨(fun n h => by cases h), by rw [next9]; exact right9⟩
theorem can9 : canB e9 = true := rfl
theorem fits9 : e9.Fits := by
  refine ⟨by decide, by decide, by decide, by decide, by decide, by decide, by decide, (fun t h => by cases h), (fun k h => by cases h)⟩
theorem ok9 : e9.Ok := ⟨by decide, by decide, by decide, by decide, by decide, (fun t h => by cases h), (fun k h => by cases h)⟩
theorem start_len : (wholeB vStart).length ≤ 100 := Nat.le_trans (wholeB_small vStart_right.1 (Nat.zero_le _)) (show 58 + 0 * 660 ≤ 100 by decide)
theorem nine_len : (wholeB (nextV vStart e9).up).length ≤ 100 :=
  Nat.le_trans (wholeB_small (v := (nextV vStart e9).up) (up_right (by rw [next9]; exact right9) (by decide)) (Nat.zero_le _)) (show 58 + 0 * 660 ≤ 100 by decide)
/-- What the first call makes of new files. -/
theorem alive_plain : ∃ s1 s2 s3, openM (St.new 0) = (s1, 0, ⟨1, vStart⟩) ∧ GoodO 100 (St.new 0) ∧ addM s1 ⟨1, vStart⟩ false e9 = (s2, 0, ⟨1, ⟨2, 9, 0, []⟩⟩, false) ∧ openM s2 = (s3, 0, ⟨1, ⟨2, 9, 0, []⟩⟩) ∧ GoodO 100 s2 := by
  obtain ⟨h1, h2⟩ := open_new calm_new (fun n => look_new n)
  obtain ⟨s1, hs1⟩ : ∃ s1, (openM (St.new 0)).1 = s1 := ⟨_, rfl⟩
  rw [hs1] at h2
  have hA := add_calm h2 can9 app9 (by decide) (by decide) (by decide) (by decide)
  have hE : EdsC [wholeE vStart] [putE (wholeE vStart)] := EdsC.one vStart_right.1 (Nat.zero_le _)
  have hE2 := hE.more fits9
  have hsz : (frames ([putE (wholeE vStart)] ++ [putE e9])).length ≤ 200 := by
    have a1 := putE_len3 _ (whole_fits vStart_right.1 (Nat.zero_le _))
    have a2 := putE_len3 _ fits9
    have e1 : (wholeE vStart).add.length = 0 := rfl
    have e2 : (wholeE vStart).drop.length = 0 := rfl
    have e3 : e9.add.length = 0 := rfl
    have e4 : e9.drop.length = 0 := rfl
    have e5 : frames ([putE (wholeE vStart)] ++ [putE e9]) = frm (putE (wholeE vStart)) ++ frm (putE e9) := by simp [frames]
    rw [e5, List.length_append, frm_length, frm_length]
    omega
  obtain ⟨a1, a2, a3⟩ := hA
  rcases a3 with ⟨-, a4, a5⟩ | ⟨a4, -⟩
  rotate_left
  · omega
  obtain ⟨o1, o2⟩ := open_same a5
  refine ⟨s1, (addM s1 ⟨1, vStart⟩ false e9).1, (openM (addM s1 ⟨1, vStart⟩ false e9).1).1, ?_, goodO_new start_len (by decide), ?_, ?_, goodO_calm start_len a5 hE2 (by decide) (by decide) (by omega) (by decide) nine_len⟩
  · rw [← hs1, ← h1]
  · exact Prod.ext rfl (Prod.ext a1 (Prod.ext a4 a2))
  · exact Prod.ext rfl o1
theorem open_lit {F : Nat → Prop} {B p n m K : Nat} {sr : St} {w w' : World} {e : Ending} {num : Nat} {log next : Int} {seq : Nat} (h : OpenV F B p n m K sr 0 ⟨num, ⟨log, next, seq, []⟩⟩ w e w') :
    ∃ M a c Q ra rc Q2, e = .returned (.tuple #[.pointer (some ⟨M, 0, none⟩), .agg #[.int .i64 log, .int .i64 next, .int .u64 (seq : Int), .slice ra 0 rc], .int .i64 0]) ∧ OpenQ F Q Q2 B p (n + 24) (m + K + 9) M sr ⟨num, ⟨log, next, seq, []⟩⟩ a c ra rc w w' := by
  rcases h with ⟨h0, -⟩ | ⟨-, h⟩
  · exact absurd rfl h0
  · exact h
set_option maxHeartbeats 8000000 in
set_option maxRecDepth 100000 in
theorem malive_any (w : World) : Calls Tryz.prog 9 #[] w fun e w' => e = .returned (.bool true) ∧ Below w.heap.size w w' := by
  obtain ⟨s1, s2, s3, p1, p2, p3, p4, p5⟩ := alive_plain
  have C1 := Lib.hid (hs_new 0 (by omega) w)
  have C2 := Lib.hid (fun (W : World) (p : Nat) (h : Hs (fun k => k < w.heap.size) w.heap.size p 0 0 (St.new 0) W) => (mopen_any h (by omega) (by omega) 100 p2 s1 0 ⟨1, vStart⟩ p1 (fun _ => by decide)).mono fun e w' h => open_lit h)
  have HP3 := Lib.hid p3
  have HP4 := Lib.hid p4
  have HP5 := Lib.hid p5
  clear p1 p2 p3 p4 p5
  go_enter Tryz.func9, Tryz.ntmps9
  go_wp2_with fail
  go_at_call 10
  (with_reducible refine C1.out.mono ?_)
  rintro _ w1 ⟨p, rfl, h1, b1⟩
  have C2' := Lib.hid (C2.out w1 p h1)
  have HB1 := Lib.hid b1
  clear h1 b1 C1 C2
  go_wp2_with fail
  go_at_call 15
  (with_reducible refine C2'.out.mono ?_)
  rintro _ w2 ⟨M, a, c, Q, ra, rc, Q2, rfl, q⟩
  obtain ⟨W3, hW3⟩ : ∃ W3, w2.alloc (.cells #[.int .i64 2, .int .i64 2, .int .u64 0, .slice ra 0 rc] 63) = W3 := ⟨_, rfl⟩
  have b3 : Below w2.heap.size w2 W3 := by rw [← hW3]; exact (Below.refl _ _).alloc (Nat.le_refl _) _
  have y3 : BoxV w2.heap.size 2 2 0 (.slice ra 0 rc) W3 := by rw [← hW3]; exact new_block _ _ rfl
  have hB2 : w.heap.size ≤ M := Nat.le_trans HB1.out.size q.newM
  have CA := Lib.hid (show Calls Tryz.prog 12 #[.pointer (some ⟨M, 0, none⟩), .agg #[.int .i64 0, .int .i64 9, .int .u64 0, .slice none 0 0, .slice none 0 0]] W3 fun x w' => x = .returned (.int .i64 0) ∧ ∃ a' c' Q', AddQ (fun j => (fun k => k < w.heap.size) j ∨ j = M ∨ Q j ∨ Q2 j) Q' w.heap.size p (0 + 24 + 24) (0 + 100 + 9 + (8 + 100) + 100 + 9) M s2 ⟨1, vStart⟩ ⟨1, ⟨2, 9, 0, []⟩⟩ a c a' c' false W3 w' from
    mAdd_any (q.hs.same b3) (by omega) (by omega) M ⟨1, vStart⟩ (show 1 < 100000000 by omega) a c (q.man.kept (b3.block M q.man.lt)) (.inr (.inl rfl)) hB2 ((q.row.kept fun j hj => b3.block j (q.hs.lt j (.inr (.inr (.inl hj))))).row.v) (.inr vStart_right.1) (Nat.zero_le _) e9 none 0 none 0 (.inl ⟨rfl, rfl⟩) (.inl ⟨rfl, rfl⟩) ok9 100 (fun _ => Nat.le_trans (putE_len3 e9 fits9) (show 50 + 0 * 660 + 0 * 10 ≤ 100 by decide)) (by omega) (Nat.zero_le _) 100 nine_len s2 0 ⟨1, ⟨2, 9, 0, []⟩⟩ false HP3.out)
  have y1 := y3.c1
  have HB3 := Lib.hid (HB1.out.trans (q.bel.trans (b3.mono q.hs.size)))
  have HW3 := Lib.hid hW3
  clear hW3 b3 y3 q C2' hB2
  go_upto_region 3 with fail
  rw [HW3.out]
  clear HW3
  go_wp2_with fail
  go_at_call 12
  (with_reducible refine CA.out.mono ?_)
  rintro _ w4 ⟨rfl, a', c', Q', q4⟩
  have CO := Lib.hid ((mopen_any q4.hs (by omega) (by omega) 100 HP5.out s3 0 ⟨1, ⟨2, 9, 0, []⟩⟩ HP4.out (fun _ => by decide)).mono fun e w' h => open_lit h)
  have HB4 := Lib.hid (HB3.out.trans q4.bel)
  clear q4 CA y1
  go_wp2_with fail
  go_at_call 15
  (with_reducible refine CO.out.mono ?_)
  rintro _ w5 ⟨M5, a5, c5, Q5, ra5, rc5, Q6, rfl, q5⟩
  obtain ⟨W6, hW6⟩ : ∃ W6, w5.alloc (.cells #[.int .i64 2, .int .i64 9, .int .u64 0, .slice ra5 0 rc5] 63) = W6 := ⟨_, rfl⟩
  have b6 : Below w5.heap.size w5 W6 := by rw [← hW6]; exact (Below.refl _ _).alloc (Nat.le_refl _) _
  have y6 : BoxV w5.heap.size 2 9 0 (.slice ra5 0 rc5) W6 := by rw [← hW6]; exact new_block _ _ rfl
  have CNM := Lib.hid (show Calls Tryz.prog 22 #[.pointer (some ⟨M5, 0, none⟩)] W6 fun e w' => e = .returned (.string ⟨#[109, 48, 48, 48, 48, 48, 48, 48, 49]⟩) ∧ Below W6.heap.size W6 w' from mnameof_any (q5.man.kept (b6.block M5 q5.man.lt)) (show 1 < 100000000 by omega))
  have CN7 := Lib.hid (show ∀ W, Calls Tryz.prog 38 #[.int .i64 7] W fun e w' => e = .returned (.string ⟨#[109, 48, 48, 48, 48, 48, 48, 48, 55]⟩) ∧ Below W.heap.size W w' from fun W => mname_any 7 W (by omega) (by omega))
  have y1 := y6.c1
  have HB6 := Lib.hid (HB4.out.trans (q5.bel.trans (b6.mono q5.hs.size)))
  have HSZ := Lib.hid (show w.heap.size ≤ W6.heap.size from Nat.le_trans q5.hs.size b6.size)
  have HW6 := Lib.hid hW6
  clear hW6 b6 y6 q5 CO
  go_upto_region 6 with fail
  rw [HW6.out]
  clear HW6
  go_wp2_with (first
    | (go_at_call 22; (with_reducible refine CNM.out.mono ?_); rintro _ w7 ⟨rfl, b7⟩)
    | (go_at_call 38; (with_reducible refine (CN7.out _).mono ?_); rintro _ w8 ⟨rfl, b8⟩)
    | fail)
  go_ret
  exact ⟨rfl, HB6.out.trans ((b7.trans (b8.mono b7.size)).mono HSZ.out)⟩
end Go.Proofs.YtlecffpjcjlabaaGreat
