/- Contract of okey.cutText: a text at the front of some bytes. -/
import Derived.Test.YtgoehmmmajdenaaGreatDoorK3
import Derived.Deep.RegionWith
import Derived.Deep.Draws
namespace Go.Proofs.YtgoehmmmajdenaaGreatDoor
open Go.RowKit

/-- Behind what was read already. -/
def pre (p : List UInt8) (x : List UInt8 × List UInt8 × Int) : List UInt8 × List UInt8 × Int := if x.2.2 = 0 then (p ++ x.1, x.2.1, 0) else ([], [], x.2.2)
theorem pre_pre (p q : List UInt8) (x : List UInt8 × List UInt8 × Int) : pre p (pre q x) = pre (p ++ q) x := by
  unfold pre
  by_cases h : x.2.2 = 0 <;> simp [h]
/-- The text at the front, what is left, and 0; 5 if the bytes end ahead of its end; 4 if behind a byte 0 stands another byte than 1 or 255. -/
def rdKey : List UInt8 → List UInt8 × List UInt8 × Int
  | [] => ([], [], 5)
  | [_] => ([], [], 5)
  | c :: d :: r => if c = 0 then (if d = 1 then ([], r, 0) else if d = 255 then pre [0] (rdKey r) else ([], [], 4)) else pre [c] (rdKey (d :: r))
theorem rdKey_cons (c : UInt8) (r : List UInt8) (h : c ≠ 0) : rdKey (c :: r) = pre [c] (rdKey r) := by
  cases r with
  | nil => simp [rdKey, pre]
  | cons d r => rw [rdKey, if_neg h]
theorem rdKey_errs : ∀ (l : List UInt8), (rdKey l).2.2 ≠ 0 → rdKey l = ([], [], (rdKey l).2.2)
  | [], _ => rfl
  | [_], _ => rfl
  | c :: d :: r, h => by
    rw [rdKey] at h ⊢
    by_cases hc : c = 0
    · rw [if_pos hc] at h ⊢
      by_cases h1 : d = 1
      · rw [if_pos h1] at h; exact absurd rfl h
      · rw [if_neg h1] at h ⊢
        by_cases h2 : d = 255
        · rw [if_pos h2] at h ⊢
          unfold pre at h ⊢
          by_cases hx : (rdKey r).2.2 = 0
          · rw [if_pos hx] at h; exact absurd rfl h
          · rw [if_neg hx]
        · rw [if_neg h2]
    · rw [if_neg hc] at h ⊢
      unfold pre at h ⊢
      by_cases hx : (rdKey (d :: r)).2.2 = 0
      · rw [if_pos hx] at h; exact absurd rfl h
      · rw [if_neg hx]
theorem pre_nil (l : List UInt8) : pre [] (rdKey l) = rdKey l := by
  unfold pre
  by_cases h : (rdKey l).2.2 = 0
  · rw [if_pos h]; simp; rw [← h]
  · rw [if_neg h, ← rdKey_errs l h]
theorem rdKey_plain (t : List UInt8) : ∀ (a : List UInt8), (0 : UInt8) ∉ a → rdKey (a ++ t) = pre a (rdKey t)
  | [], _ => (pre_nil t).symm
  | c :: a, h => by
    have h1 : c ≠ 0 := fun e => h (by simp [e])
    have h2 : (0 : UInt8) ∉ a := fun e => h (by simp [e])
    rw [List.cons_append, rdKey_cons _ _ h1, rdKey_plain t a h2, pre_pre]
    rfl
theorem rdKey_short (a : List UInt8) (h : (0 : UInt8) ∉ a) : rdKey a = ([], [], 5) := by
  have := rdKey_plain [] a h
  rw [List.append_nil] at this
  rw [this]
  simp [rdKey, pre]
theorem rdKey_key (r : List UInt8) : ∀ (s : List UInt8), rdKey (key s ++ r) = (s, r, 0)
  | [] => by simp [key, esc, rdKey]
  | c :: s => by
    have ih := rdKey_key r s
    unfold key at ih ⊢
    by_cases h : c = 0
    · subst h
      simp only [esc, if_pos, List.cons_append]
      rw [rdKey, if_pos rfl, if_neg (by decide), if_pos rfl, ih]
      simp [pre]
    · simp only [esc, if_neg h, List.cons_append]
      rw [rdKey_cons _ _ h, ih]
      simp [pre]
theorem rdKey_lt : ∀ (l : List UInt8), (rdKey l).1.length + (rdKey l).2.1.length ≤ l.length
  | [] => by simp [rdKey]
  | [_] => by simp [rdKey]
  | c :: d :: r => by
    have h1 := rdKey_lt r
    have h2 := rdKey_lt (d :: r)
    rw [rdKey]
    unfold pre
    simp only [List.length_cons] at *
    repeat' split
    all_goals simp
    all_goals omega

theorem builder_below {T e : TypeId} {B b : Nat} {bs : List Value} {w w' : World} (h : Lib.IsBuilder T e B b bs w) (hb : Below w.heap.size w w') : Lib.IsBuilder T e B b bs w' := by
  have one : ∀ p, Lib.BuilderAt T e B b p bs w → Lib.BuilderAt T e B b p bs w' := by
    intro p h
    have hlt := h.lt
    obtain ⟨hB, v, hv, hown, hne⟩ := h
    exact ⟨hB, v, (hb.block b hlt).trans hv, hown.kept (row := none) ⟨hb.os, hb.tape, hb.output, hb.size, fun k hk _ => hb.block k hk⟩ (Classical.em _), hne⟩
  exact h.elim (fun x => .inl (one _ x)) (fun x => .inr (one _ x))

/-- A builder of a call that began at w0, holding bytes. -/
def Bld (w0 : World) (b : Nat) (acc : List UInt8) (w : World) : Prop := Lib.IsBuilder 70 5 w0.heap.size b (Lib.byteCells acc) w ∧ Below w0.heap.size w0 w
theorem Bld.below {w0 w w' : World} {b : Nat} {acc : List UInt8} (h : Bld w0 b acc w) (hb : Below w.heap.size w w') : Bld w0 b acc w' := ⟨builder_below h.1 hb, h.2.trans (hb.mono h.2.size)⟩

theorem Bld.drewN {w0 w : World} {b : Nat} {acc : List UInt8} (h : Bld w0 b acc w) (n : Nat) : Bld w0 b acc (w.drewN n) := h.below ⟨rfl, rfl, rfl, Nat.le_refl _, fun _ _ => rfl⟩
theorem write_any (w0 : World) (b : Nat) (acc : List UInt8) (A : ByteArray) (w : World) (h : Bld w0 b acc w) (hl : acc.length + A.size ≤ 140737488355328) :
    Calls Tryz.prog 25 #[.pointer (some ⟨b, 0, none⟩), .string A] w fun e w' => e = .returned (.tuple #[.int .i64 A.size, .nilIface]) ∧ Bld w0 b (acc ++ A.data.toList) w' := by
  refine (Tryz.Builder_WriteString w0.heap.size b (Lib.byteCells acc) A w h.1 (by simpa [Lib.byteCells] using hl) h.2.size).mono ?_
  rintro e w1 ⟨rfl, hq, hb⟩
  refine ⟨rfl, .inr ?_, h.2.trans hb⟩
  rw [Lib.byteCells_append]
  exact hq
theorem string_any (w0 : World) (b : Nat) (acc : List UInt8) (w : World) (h : Bld w0 b acc w) :
    Calls Tryz.prog 26 #[.pointer (some ⟨b, 0, none⟩)] w fun e w' => e = .returned (.string ⟨acc.toArray⟩) ∧ Below w0.heap.size w0 w' := by
  refine (Tryz.Builder_String_any w0.heap.size b acc w h.1 h.2.size).mono ?_
  rintro e w1 ⟨rfl, hb⟩
  exact ⟨rfl, h.2.trans hb⟩

theorem drew_below (w : World) (n : Nat) : Below w.heap.size w (w.drewN n) := ⟨rfl, rfl, rfl, Nat.le_refl _, fun _ _ => rfl⟩
theorem cut_none (X : ByteArray) (w : World) (hs : X.size < 4294967281) (hm : Max w) (h : (0 : UInt8) ∉ X.data.toList) :
    Calls Tryz.prog 128 #[.string X, .string ⟨#[0]⟩] w fun e w' => e = .returned (.tuple #[.string X, .string ⟨#[]⟩, .bool false]) ∧ Below w.heap.size w w' := by
  obtain ⟨m, hm⟩ := hm
  refine (Tryz.strings_Cut X ⟨#[0]⟩ m w hs hm).mono ?_
  rintro e w1 ⟨rfl, n, rfl⟩
  refine ⟨?_, drew_below _ _⟩
  rcases cut0 X.data.toList with ⟨_, h2⟩ | ⟨a, r, h1, h2, _⟩
  · rw [show (⟨#[0]⟩ : ByteArray).data.toList = [0] from rfl, h2]
  · exact absurd (by rw [h1]; simp) h
theorem split_at (a b r t : List UInt8) (h : a ++ 0 :: r = b ++ 0 :: t) (ha : (0 : UInt8) ∉ a) (hb : (0 : UInt8) ∉ b) : a = b ∧ r = t := by
  induction a generalizing b with
  | nil =>
    cases b with
    | nil => simpa using h
    | cons c b => simp at h; exact absurd (by simp [← h.1]) hb
  | cons c a ih =>
    cases b with
    | nil => simp at h; exact absurd (by simp [h.1]) ha
    | cons d b =>
      simp only [List.cons_append, List.cons.injEq] at h
      have := ih b h.2 (fun e => ha (by simp [e])) (fun e => hb (by simp [e]))
      exact ⟨by rw [h.1, this.1], this.2⟩
theorem cut_hit (X A R : ByteArray) (w : World) (hs : X.size < 4294967281) (hm : Max w) (h : X.data.toList = A.data.toList ++ 0 :: R.data.toList) (h0 : (0 : UInt8) ∉ A.data.toList) :
    Calls Tryz.prog 128 #[.string X, .string ⟨#[0]⟩] w fun e w' => e = .returned (.tuple #[.string A, .string R, .bool true]) ∧ Below w.heap.size w w' := by
  obtain ⟨m, hm⟩ := hm
  refine (Tryz.strings_Cut X ⟨#[0]⟩ m w hs hm).mono ?_
  rintro e w1 ⟨rfl, n, rfl⟩
  refine ⟨?_, drew_below _ _⟩
  rcases cut0 X.data.toList with ⟨h1, h2⟩ | ⟨a, r, h1, h2, h3⟩
  · exact absurd (by rw [h]; simp) h1
  · rw [show (⟨#[0]⟩ : ByteArray).data.toList = [0] from rfl, h3]
    obtain ⟨rfl, rfl⟩ := split_at _ _ _ _ (h1.symm.trans h) h2 h0
    rfl

theorem fresh_bld (w : World) : Bld w w.heap.size [] (w.alloc (Obj.cells #[Value.pointer none, Value.slice none 0 0] 70)) := by
  refine ⟨.inl ⟨Nat.le_refl _, .slice none 0 0, ?_, ?_, ?_⟩, (Below.refl _ _).alloc (Nat.le_refl _) _⟩
  · simp [World.alloc, -World.alloc_eq]
  · exact World.ownsRow_nil _ _ _ _
  · simp [Value.ownBlock]

def strLen : Value → Nat
  | .string X => X.size
  | _ => 0

/-- What cutText answers of what was read and what it reads on. -/
def cutVal (x : List UInt8 × List UInt8 × Int) : Value := .tuple #[.string ⟨x.1.toArray⟩, .string ⟨x.2.1.toArray⟩, .int .i64 x.2.2]

theorem head1 (R : ByteArray) (d : UInt8) (r : List UInt8) (h : R.data.toList = d :: r) : R.extract 0 1 = ⟨#[d]⟩ ∧ R.extract 1 R.size = ⟨r.toArray⟩ ∧ R.size = r.length + 1 := by
  have hR : R = ⟨(d :: r).toArray⟩ := by
    rcases R with ⟨a⟩
    congr 1
    simpa using congrArg List.toArray h
  subst hR
  refine ⟨?_, ?_, ?_⟩
  · apply ByteArray.ext
    simp [ByteArray.data_extract]
  · apply ByteArray.ext
    simp [ByteArray.data_extract, ByteArray.size]
  · simp [ByteArray.size]

set_option maxHeartbeats 1000000 in
set_option maxRecDepth 100000 in
theorem cutText_any (s : ByteArray) (w : World) (hs : s.size < 4294967281) (hm : Max w) :
    Calls Tryz.prog 94 #[.string s] w fun e w' => e = .returned (cutVal (rdKey s.data.toList)) ∧ Below w.heap.size w w' := by
  go_enter Tryz.func94, Tryz.ntmps94
  go_wp2
  go_loopw [0] (fun b wr => ∃ (X : ByteArray) (acc : List UInt8), b = .string X ∧ Bld w w.heap.size acc wr ∧ acc.length + X.size ≤ s.size ∧ Hid (rdKey s.data.toList = pre acc (rdKey X.data.toList))) (fun b _ => strLen b)
  case atStart =>
    refine ⟨s, [], rfl, ?_, by simp, (pre_nil _).symm⟩
    exact fresh_bld w
  case round =>
    obtain ⟨X, acc, rfl, hbld, hlen, HX⟩ := hrel
    have hmx : Max wr := hm.below hbld.2 hm.lt
    have hsX : X.size < 4294967281 := by omega
    rcases cut0 X.data.toList with ⟨h1, -⟩ | ⟨a, r, h1, h2, -⟩
    · have hv := Lib.hid (show cutVal (rdKey s.data.toList) = .tuple #[.string ⟨#[]⟩, .string ⟨#[]⟩, .int .i64 5] by
        rw [HX.out, rdKey_short _ h1]; rfl)
      go_wp2_with (go_at_call 128; refine (cut_none X _ hsX hmx h1).mono ?_; rintro e w1 ⟨rfl, hb⟩)
      go_ret3
      exact ⟨hv.out.symm ▸ rfl, hbld.2.trans (hb.mono hbld.2.size)⟩
    · obtain ⟨A, hA⟩ : ∃ A : ByteArray, A.data.toList = a := ⟨⟨a.toArray⟩, rfl⟩
      obtain ⟨R, hR⟩ : ∃ R : ByteArray, R.data.toList = r := ⟨⟨r.toArray⟩, rfl⟩
      have hsz : X.size = A.size + R.size + 1 := by
        have e := congrArg List.length h1
        rw [← hA, ← hR] at e
        have e1 : X.data.toList.length = X.size := rfl
        have e2 : A.data.toList.length = A.size := rfl
        have e3 : R.data.toList.length = R.size := rfl
        simp only [List.length_append, List.length_cons] at e
        omega
      have HX2 := Lib.hid (HX.out.trans (by rw [h1, rdKey_plain _ a h2, pre_pre]))
      have hcut := Lib.hid (fun w' hmx' => cut_hit X A R w' hsX hmx' (by rw [hA, hR]; exact h1) (by rw [hA]; exact h2))
      have hl1 : acc.length + A.size ≤ 140737488355328 := by omega
      rcases r with _ | ⟨d, r'⟩
      · have hRe : R = ⟨#[]⟩ := by
          rcases R with ⟨x⟩
          congr 1
          simpa using congrArg List.toArray hR
        subst hRe
        have hv := Lib.hid (show cutVal (rdKey s.data.toList) = .tuple #[.string ⟨#[]⟩, .string ⟨#[]⟩, .int .i64 5] by
          rw [HX2.out]; rfl)
        clear hsz
        go_wp2_with (go_at_call 128; refine (hcut.out _ hmx).mono ?_; rintro e w1 ⟨rfl, hb⟩)
        go_ret3
        exact ⟨hv.out.symm ▸ rfl, hbld.2.trans (hb.mono hbld.2.size)⟩
      · obtain ⟨hx1, hx2, hx3⟩ := head1 R d r' hR
        have hne : R.toList.isEmpty = false := by
          rw [Lib.toList_data, hR]; rfl
        by_cases hd1 : d = 1
        · subst hd1
          have hv := Lib.hid (show cutVal (rdKey s.data.toList) = .tuple #[.string ⟨(acc ++ A.data.toList).toArray⟩, .string ⟨r'.toArray⟩, .int .i64 0] by
            rw [HX2.out, rdKey, if_pos rfl, if_pos rfl, hA]; simp [pre, cutVal])
          go_wp2_with (first | (go_at_call 128; refine (hcut.out _ hmx).mono ?_; rintro e w1 ⟨rfl, hb⟩; replace hbld := hbld.below hb) | (go_at_call 25; refine (write_any w _ _ _ _ hbld hl1).mono ?_; rintro e w2 ⟨rfl, hbld⟩))
          have hbd : Bld w w.heap.size (acc ++ A.data.toList) w2.drew := hbld.drewN 1
          clear hbld hlen hsX
          go_region_with (go_at_call 26; refine (string_any w w.heap.size (acc ++ A.data.toList) _ hbd).mono ?_; rintro e w3 ⟨rfl, hb3⟩)
          all_goals go_wp2
          all_goals go_ret3
          all_goals
            refine ⟨?_, hb3⟩
            rw [hx3] at hx2
            rw [hv.out, hx2, hA]
            rfl
        · by_cases hd2 : d = 255
          · subst hd2
            have hl2 : (acc ++ A.data.toList).length + (⟨#[0]⟩ : ByteArray).size ≤ 140737488355328 := by
              rw [List.length_append]
              have e2 : A.data.toList.length = A.size := rfl
              have e3 : (⟨#[0]⟩ : ByteArray).size = 1 := rfl
              omega
            have HX3 := Lib.hid (HX2.out.trans (by rw [rdKey, if_pos rfl, if_neg (by decide), if_pos rfl, pre_pre]))
            have hlen2 : ((acc ++ A.data.toList) ++ (⟨#[0]⟩ : ByteArray).data.toList).length + r'.length ≤ s.size := by
              rw [List.length_append, List.length_append]
              have e2 : A.data.toList.length = A.size := rfl
              have e3 : (⟨#[0]⟩ : ByteArray).data.toList.length = 1 := rfl
              omega
            go_wp2_with (first | (go_at_call 128; refine (hcut.out _ hmx).mono ?_; rintro e w1 ⟨rfl, hb⟩; replace hbld := hbld.below hb) | (go_at_call 25; refine (write_any w _ _ _ _ hbld (by first | exact hl1 | exact hl2)).mono ?_; rintro e w2 ⟨rfl, hbld⟩))
            go_roundw
            case rel =>
              rw [hx3] at hx2
              refine ⟨_, _, rfl, hbld, ?_, ?_⟩
              · rw [hx2]
                exact hlen2
              · show _ = _
                rw [HX3.out, hx2, hA]
            case measure =>
              simp [strLen]
              omega
          · have hv := Lib.hid (show cutVal (rdKey s.data.toList) = .tuple #[.string ⟨#[]⟩, .string ⟨#[]⟩, .int .i64 4] by
              rw [HX2.out, rdKey, if_pos rfl, if_neg hd1, if_neg hd2]; rfl)
            have hn1 : (([d] : List UInt8) == [1]) = false := by simpa using hd1
            have hn2 : (([d] : List UInt8) == [255]) = false := by simpa using hd2
            go_wp2_with (first | (go_at_call 128; refine (hcut.out _ hmx).mono ?_; rintro e w1 ⟨rfl, hb⟩; replace hbld := hbld.below hb) | (go_at_call 25; refine (write_any w _ _ _ _ hbld (by first | exact hl1)).mono ?_; rintro e w2 ⟨rfl, hbld⟩))
            go_ret3
            exact ⟨hv.out.symm ▸ rfl, hbld.2⟩
end Go.Proofs.YtgoehmmmajdenaaGreatDoor
