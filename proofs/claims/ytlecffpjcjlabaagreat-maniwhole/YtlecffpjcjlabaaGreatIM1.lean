/- mani: names, numbers; replace, switchTo (I1 I2). -/
import Derived.Test.YtlecffpjcjlabaaGreatWH
import Derived.Test.YtlecffpjcjlabaaGreatXSM
import Derived.Test.YtlecffpjcjlabaaGreatWE
import Derived.Test.YtlecffpjcjlabaaGreatP13S
namespace Go.Proofs.YtlecffpjcjlabaaGreat
open Go.RowKit

section
variable {F G : Nat → Prop} {B p n m : Nat} {s : St} {w : World}
theorem hs_rename (h : Hs F B p n m s w) (hN : n ≤ 100000) (a : ByteArray) (ha : a.size ≤ maxLen) (b : ByteArray) (hb : b.size ≤ maxLen) :
    Calls Tryz.prog 63 #[.pointer (some ⟨p, 0, none⟩), .string a, .string b] w fun e w' => e = .returned (.int .i64 (s.rename a.data.toList b.data.toList).2) ∧ Hs F B p (n + 2) m (s.rename a.data.toList b.data.toList).1 w' ∧ Below B w w' ∧ Kp F w w' := by
  have hB := h.size
  obtain ⟨r, h1, rfl, h3, h4, h5, h6⟩ := h
  refine (rename_any h1 h4 hN a ha b hb).mono ?_
  rintro e w' ⟨rfl, hn'⟩
  exact ⟨rfl, Hs.next hB h3 rfl hn' (rename_lim h4 _ _) (rename_coh h5 h1.wf.nnms _ _) h6⟩
theorem hs_remove (h : Hs F B p n m s w) (hN : n ≤ 100000) (name : ByteArray) (hn : name.size ≤ maxLen) :
    Calls Tryz.prog 35 #[.pointer (some ⟨p, 0, none⟩), .string name] w fun e w' => e = .returned (.int .i64 (s.remove name.data.toList).2) ∧ Hs F B p (n + 2) m (s.remove name.data.toList).1 w' ∧ Below B w w' ∧ Kp F w w' := by
  have hB := h.size
  obtain ⟨r, h1, rfl, h3, h4, h5, h6⟩ := h
  refine (remove_any h1 h4 hN name hn).mono ?_
  rintro e w' ⟨rfl, hn'⟩
  exact ⟨rfl, Hs.next hB h3 rfl hn' (remove_lim h4 _) (remove_coh h5 _) h6⟩
/-- The files behind some calls: a state, all else as it was. -/
def FsV (F : Nat → Prop) (B p n m : Nat) (s' : St) (w w' : World) : Prop := Hs F B p n m s' w' ∧ Below B w w' ∧ Kp F w w'
theorem FsV.hs {w' : World} (h : FsV F B p n m s w w') : Hs F B p n m s w' := h.1
theorem FsV.refl (h : Hs F B p n m s w) : FsV F B p n m s w w := ⟨h, Below.refl _ _, Kp.refl _ _⟩
theorem FsV.then {n' m' : Nat} {s' : St} {w1 w2 : World} (h : FsV F B p n m s w w1) (h2 : Hs F B p n' m' s' w2) (b2 : Below B w1 w2) (k2 : Kp F w1 w2) : FsV F B p n' m' s' w w2 := ⟨h2, h.2.1.trans b2, h.2.2.trans k2⟩
theorem FsV.trans {n' m' : Nat} {s' : St} {w1 w2 : World} (h : FsV F B p n m s w w1) (h2 : FsV F B p n' m' s' w1 w2) : FsV F B p n' m' s' w w2 := ⟨h2.1, h.2.1.trans h2.2.1, h.2.2.trans h2.2.2⟩
theorem FsV.up {n' m' : Nat} {w1 : World} (h : FsV F B p n m s w w1) (hn : n ≤ n') (hm : m ≤ m') : FsV F B p n' m' s w w1 := ⟨h.1.up hn hm, h.2.1, h.2.2⟩
/-- Blocks were made besides. -/
theorem FsV.made {w1 w2 : World} (h : FsV F B p n m s w w1) (b2 : Below w1.heap.size w1 w2) : FsV F B p n m s w w2 :=
  ⟨h.1.same b2, h.2.1.trans (b2.mono h.1.size), fun k hk => (b2.block k (h.1.lt k hk)).trans (h.2.2 k hk)⟩
end
set_option maxHeartbeats 1000000 in
/-- The name of a file of edits. -/
theorem mname_any (num : Int) (w : World) (h0 : -9223372036854775808 ≤ num) (h1 : num ≤ 9223372036854775807) :
    Calls Tryz.prog 38 #[.int .i64 num] w fun e w' => e = .returned (.string ⟨(nmM (num % 100000000).toNat).toArray⟩) ∧ Below w.heap.size w w' := by
  have CN := Lib.hid (name_any num w h0 h1)
  obtain ⟨m, hm⟩ : ∃ m, (num % 100000000).toNat = m := ⟨_, rfl⟩
  rw [hm] at CN ⊢
  unfold nmM
  obtain ⟨S, hS⟩ : ∃ S : ByteArray, ⟨(nameB m).toArray⟩ = S := ⟨_, rfl⟩
  have hSd : S.data.toList = nameB m := by rw [← hS]
  have hSs : S.size = 9 := by rw [← lenN, hSd]; rfl
  rw [hS] at CN
  have k1 : (1 : Int) ≤ (S.size : Int) := by omega
  obtain ⟨E, hE⟩ : ∃ E, S.extract 1 S.size = E := ⟨_, rfl⟩
  have hEd : E.data.toList = dig8 m := by rw [← hE, ext_from, hSd]; rfl
  have hEs : E.size = 8 := by rw [← lenN, hEd]; rfl
  have HR := Lib.hid (show (⟨#[109]⟩ : ByteArray) ++ E = ⟨(109 :: dig8 m).toArray⟩ by
    apply Go.WideShapes.bytes_inj
    rw [ByteArray.data_append, Array.toList_append, hEd]
    rfl)
  have k3 : ¬ (9223372036854775807 < (⟨#[109]⟩ : ByteArray).size + E.size) := by rw [hEs]; decide
  have k4 : (⟨#[109]⟩ : ByteArray).data.size + E.data.size ≤ 9223372036854775807 := by show 1 + E.size ≤ _; omega
  clear hS hSd hSs hEd hEs h0 h1 hm
  go_enter Tryz.func38, Tryz.ntmps38
  go_wp2_with (go_at_call 151; (with_reducible refine CN.out.mono ?_); rintro _ w1 ⟨rfl, b1⟩)
  go_ret
  exact ⟨by rw [← HR.out]; rfl, b1⟩
def mnumV (l : List UInt8) : Value := match numM l with
  | some v => .tuple #[.int .i64 (v : Int), .bool true]
  | none => .tuple #[.int .i64 0, .bool false]
theorem mnumV_no {l : List UInt8} (h : ¬ (l.length = 9 ∧ l.head? = some 109 ∧ (l.drop 1).all isDg = true)) : mnumV l = .tuple #[.int .i64 0, .bool false] := by
  unfold mnumV numM
  rw [if_neg h]
theorem mnumV_yes {l : List UInt8} (h : l.length = 9 ∧ l.head? = some 109 ∧ (l.drop 1).all isDg = true) : mnumV l = .tuple #[.int .i64 (dgVal (l.drop 1) : Int), .bool true] := by
  unfold mnumV numM
  rw [if_pos h]
theorem ext_one (s : ByteArray) (h : 0 < s.size) : (s.extract 0 1).data.toList = [s[0]] := by
  have h2 : 0 < s.data.toList.length := by rw [lenN]; exact h
  rw [ext_to s 1]
  cases hl : s.data.toList with
  | nil => rw [hl] at h2; simp at h2
  | cons a r =>
    have : s[0] = a := by
      have e := headN s h
      rw [hl] at e
      exact (Option.some.inj e).symm
    rw [this]
    rfl
set_option maxHeartbeats 4000000 in
set_option maxRecDepth 100000 in
theorem mnumber_any (s : ByteArray) (w : World) :
    Calls Tryz.prog 239 #[.string s] w fun e w' => e = .returned (mnumV s.data.toList) ∧ w = w' := by
  by_cases h9 : s.size = 9
  · have d9 : ((s.size : Int) != 9) = false := by rw [h9]; rfl
    have k1 : (1 : Int) ≤ (s.size : Int) := by omega
    obtain ⟨E, hE⟩ : ∃ E, s.extract 0 1 = E := ⟨_, rfl⟩
    have hEd : E.toList = [s[0]] := by rw [ByteArray.toList_eq, ← hE]; exact ext_one s (by omega)
    by_cases hh : s[0] = 109
    · have dh : (E.toList == [109]) = true := by rw [hEd, hh]; rfl
      have HH := Lib.hid (show s.data.toList.head? = some 109 by rw [headN s (by omega), hh])
      clear hh hEd
      go_enter Tryz.func239, Tryz.ntmps239
      go_wp2
      go_loop [4, 5] (fun v i => ∃ k n : Nat, 1 ≤ k ∧ k ≤ s.size ∧ i = .int .i64 (k : Int) ∧ v = .int .i64 (n : Int) ∧ n < 100000000 ∧ (k < 9 → n < 10000000) ∧ Hid (((s.data.toList.take k).drop 1).all isDg = true ∧ n = dgVal ((s.data.toList.take k).drop 1))) (fun _ i => s.size - (intOf i).toNat)
      case atStart => exact ⟨1, 0, Nat.le_refl _, by omega, rfl, rfl, by omega, by omega, Lib.hid (by
        have : (s.data.toList.take 1).drop 1 = [] := by rw [List.drop_eq_nil_iff, List.length_take]; omega
        rw [this]; exact ⟨rfl, rfl⟩)⟩
      case round =>
        obtain ⟨k, n, hk1, hk, rfl, rfl, hn, hn2, HA⟩ := hrel
        by_cases hlt : k < s.size
        · have HS := Lib.hid (take_snocN s k hlt hk1)
          have HM := Lib.hid (memN s k hlt hk1)
          have hn3 := hn2 (by omega)
          go_wp2
          · have hb : (s[k].toNat : Int) < 48 ∨ 57 < (s[k].toNat : Int) := by assumption
            have HV := Lib.hid (mnumV_no (l := s.data.toList) (fun h => not_all HM.out (by simp only [isDg, decide_eq_false_iff_not]; omega) h.2.2))
            go_ret2
            exact ⟨by rw [HV.out]; rfl, rfl⟩
          · have hb : 48 ≤ (s[k].toNat : Int) ∧ (s[k].toNat : Int) ≤ 57 := by assumption
            go_round
            case rel =>
              have ha := HA.out
              have hall : ((s.data.toList.take (k + 1)).drop 1).all isDg = true := by
                rw [HS.out, List.all_append, ha.1]
                have : isDg s[k] = true := by simp only [isDg, decide_eq_true_eq]; omega
                simp [this]
              have hval : n * 10 + (s[k].toNat - 48) = dgVal ((s.data.toList.take (k + 1)).drop 1) := by rw [HS.out, dgVal_snoc, ← ha.2]
              refine ⟨k + 1, n * 10 + (s[k].toNat - 48), by omega, by omega, by go_num, by congr 1; omega, ?_, fun hk9 => ?_, Lib.hid ⟨hall, hval⟩⟩
              · rw [hval]
                exact Nat.lt_of_lt_of_le (dgVal_lt _ hall 8 (by rw [List.length_drop, List.length_take]; omega)) (by decide)
              · rw [hval]
                exact Nat.lt_of_lt_of_le (dgVal_lt _ hall 7 (by rw [List.length_drop, List.length_take]; omega)) (by decide)
            case measure => simp [intOf]; omega
          · have hb : (s[k].toNat : Int) < 48 := by assumption
            have HV := Lib.hid (mnumV_no (l := s.data.toList) (fun h => not_all HM.out (by simp only [isDg, decide_eq_false_iff_not]; omega) h.2.2))
            go_ret2
            exact ⟨by rw [HV.out]; rfl, rfl⟩
        · obtain rfl : k = s.size := by omega
          go_wp2
          go_ret2
          refine ⟨?_, rfl⟩
          have ha := HA.out
          rw [List.take_of_length_le (by rw [lenN]; omega)] at ha
          rw [mnumV_yes ⟨by rw [lenN]; exact h9, HH.out, ha.1⟩, ← ha.2]
          rfl
    · have dh : (E.toList == [109]) = false := by rw [hEd]; simpa using hh
      have HV := Lib.hid (mnumV_no (l := s.data.toList) (fun h => hh (by
        have := h.2.1
        rw [headN s (by omega)] at this
        exact Option.some.inj this)))
      clear hEd
      go_enter Tryz.func239, Tryz.ntmps239
      go_wp2
      go_ret2
      exact ⟨by rw [HV.out]; rfl, rfl⟩
  · have d9 : ((s.size : Int) != 9) = true := by simp; omega
    have HV := Lib.hid (mnumV_no (l := s.data.toList) (fun h => h9 (by rw [← lenN]; exact h.1)))
    go_enter Tryz.func239, Tryz.ntmps239
    go_wp2
    go_ret2
    exact ⟨by rw [HV.out]; rfl, rfl⟩
end Go.Proofs.YtlecffpjcjlabaaGreat

namespace Go.Proofs.YtlecffpjcjlabaaGreat
open Go.RowKit

section
variable {s s1 s2 s3 : St} {nm : Nm} {d : List UInt8}
theorem replaceM_1 {r : St × Int} (e : awayM s nm = r) (h : r.2 ≠ 0) : replaceM s nm d = r := by
  unfold replaceM
  rw [e, seqS_no h]
theorem replaceM_2 (e : awayM s nm = (s1, 0)) (h : (s1.create nm).2 ≠ 0) : replaceM s nm d = s1.create nm := by
  unfold replaceM
  rw [e, seqS_ok, seqS_no h]
theorem replaceM_3 (e : awayM s nm = (s1, 0)) (c : s1.create nm = (s2, 0)) (h : (s2.append nm d).2 ≠ 0) : replaceM s nm d = s2.append nm d := by
  unfold replaceM
  rw [e, seqS_ok, c, seqS_ok, seqS_no h]
theorem replaceM_4 (e : awayM s nm = (s1, 0)) (c : s1.create nm = (s2, 0)) (a : s2.append nm d = (s3, 0)) : replaceM s nm d = s3.sync nm := by
  unfold replaceM
  rw [e, seqS_ok, c, seqS_ok, a, seqS_ok]
theorem awayM_yes (h : (s.read nm).2 = 0) : awayM s nm = s.remove nm := by
  unfold awayM
  rw [if_pos h]
theorem awayM_no (h : (s.read nm).2 ≠ 0) : awayM s nm = (s, 0) := by
  unfold awayM
  rw [if_neg h]
theorem switchM_1 (h : (replaceM s comN nm).2 ≠ 0) : switchM s nm = replaceM s comN nm := by
  unfold switchM
  rw [seqS_no h]
theorem switchM_2 (e : replaceM s comN nm = (s1, 0)) (h : (s1.rename comN curN).2 ≠ 0) : switchM s nm = s1.rename comN curN := by
  unfold switchM
  rw [e, seqS_ok, seqS_no h]
theorem switchM_3 (e : replaceM s comN nm = (s1, 0)) (c : s1.rename comN curN = (s2, 0)) : switchM s nm = s2.syncDir := by
  unfold switchM
  rw [e, seqS_ok, c, seqS_ok]
end
section
variable {F : Nat → Prop} {B p n m : Nat} {s : St} {w : World}
set_option maxHeartbeats 4000000 in
set_option maxRecDepth 100000 in
theorem replace_any (h : Hs F B p n m s w) (hN : n ≤ 90000) (hM : m ≤ 900000000) (NM D : ByteArray) (hn : NM.size ≤ 1000) (hD : D.size ≤ 10000000) :
    Calls Tryz.prog 233 #[.pointer (some ⟨p, 0, none⟩), .string NM, .string D] w fun e w' => e = .returned (.int .i64 (replaceM s NM.data.toList D.data.toList).2) ∧ FsV F B p (n + 6) (m + D.size) (replaceM s NM.data.toList D.data.toList).1 w w' := by
  have hn' : NM.size ≤ maxLen := by unfold maxLen; omega
  have CR := Lib.hid (hs_read h NM hn')
  have CD := Lib.hid (hs_remove h (by omega) NM hn')
  have CC := Lib.hid (fun (W : World) (s : St) (h : Hs F B p (n + 2) m s W) => hs_create h (by omega) NM hn')
  have CA := Lib.hid (fun (W : World) (s : St) (h : Hs F B p (n + 4) m s W) => hs_append h (by omega) NM hn' D (by omega) (by omega))
  have CS := Lib.hid (fun (W : World) (s : St) (h : Hs F B p (n + 5) (m + D.size) s W) => hs_sync h (by omega) NM hn')
  obtain ⟨nm, hnm⟩ : ∃ nm, NM.data.toList = nm := ⟨_, rfl⟩
  obtain ⟨d, hd⟩ : ∃ d, D.data.toList = d := ⟨_, rfl⟩
  rw [hnm] at CR CD CC CA CS
  rw [hd] at CA
  rw [hnm, hd]
  have HH := Lib.hid h
  have HY := Lib.hid (@awayM_yes s nm)
  have HN := Lib.hid (@awayM_no s nm)
  clear h hnm hd hn' hn
  generalize s.read nm = rd at CR HY HN
  obtain ⟨rb, re⟩ := rd
  unfold readV at CR
  simp only at CR HY HN
  go_enter Tryz.func233, Tryz.ntmps233
  go_wp2_with (fail)
  go_at_call 32
  (with_reducible refine CR.out.mono ?_)
  rintro _ _ ⟨rfl, rfl⟩
  by_cases h0 : re = 0
  · have HA := Lib.hid (HY.out h0)
    subst h0
    go_wp2_with (fail)
    go_at_call 35
    (with_reducible refine CD.out.mono ?_)
    rintro _ w1 ⟨rfl, h1, b1, k1⟩
    have hA := HA.out
    rcases hr : s.remove nm with ⟨s1, e1⟩
    rw [hr] at hA h1
    simp only at h1 ⊢
    by_cases he : e1 = 0
    · subst he
      have HE := Lib.hid hA
      have FV := Lib.hid (show FsV F B p (n + 2) m s1 _ w1 from ⟨h1, b1, k1⟩)
      clear hr hA h1 b1 k1 CR CD HY HN HA
      go_wp2_with (fail)
      go_at_call 36
      (with_reducible refine (CC.out _ _ FV.out.hs).mono ?_)
      rintro _ w2 ⟨rfl, h2, b2, k2⟩
      rcases hc : s1.create nm with ⟨s2, e2⟩
      rw [hc] at h2
      simp only at h2 ⊢
      have G2 := Lib.hid (FV.out.then h2 b2 k2)
      by_cases he2 : e2 = 0
      rotate_left
      · have heb : (e2 != 0) = true := by simpa using he2
        have HR := Lib.hid (show replaceM s nm d = (s2, e2) by rw [← hc]; exact replaceM_2 HE.out (by rw [hc]; exact he2))
        clear hc h2 b2 k2 CC CA CS FV
        go_wp2_with (fail)
        go_ret
        exact ⟨by rw [HR.out]; rfl, by rw [HR.out]; exact G2.out.up (by omega) (by omega)⟩
      subst he2
      have HC := Lib.hid hc
      clear hc h2 b2 k2 CC FV
      go_wp2_with (fail)
      go_at_call 34
      (with_reducible refine (CA.out _ _ G2.out.hs).mono ?_)
      rintro _ w3 ⟨rfl, h3, b3, k3⟩
      rcases hap : s2.append nm d with ⟨s3, e3⟩
      rw [hap] at h3
      simp only at h3 ⊢
      have G3 := Lib.hid (G2.out.then h3 b3 k3)
      by_cases he3 : e3 = 0
      rotate_left
      · have heb : (e3 != 0) = true := by simpa using he3
        have HR := Lib.hid (show replaceM s nm d = (s3, e3) by rw [← hap]; exact replaceM_3 HE.out HC.out (by rw [hap]; exact he3))
        clear hap h3 b3 k3 CA CS G2
        go_wp2_with (fail)
        go_ret
        exact ⟨by rw [HR.out]; rfl, by rw [HR.out]; exact G3.out.up (by omega) (by omega)⟩
      subst he3
      have HR := Lib.hid (replaceM_4 HE.out HC.out hap)
      clear hap h3 b3 k3 CA G2
      go_wp2_with (fail)
      go_at_call 61
      (with_reducible refine (CS.out _ _ G3.out.hs).mono ?_)
      rintro _ w4 ⟨rfl, h4, b4, k4⟩
      have G4 := Lib.hid (G3.out.then h4 b4 k4)
      clear h4 b4 k4 CS G3
      rw [← HR.out] at G4
      have HQ := Lib.hid (congrArg Prod.snd HR.out)
      go_wp2_with (fail)
      go_ret
      exact ⟨by rw [HQ.out]; rfl, G4.out.up (by omega) (by omega)⟩
    · have heb : (e1 != 0) = true := by simpa using he
      have HE := Lib.hid (replaceM_1 (d := d) hA he)
      have FV := Lib.hid (show FsV F B p (n + 6) (m + D.size) s1 _ w1 from ⟨h1.up (by omega) (by omega), b1, k1⟩)
      clear hr hA h1 b1 k1 CR CD HY HN HA
      go_wp2_with (fail)
      go_ret
      exact ⟨by rw [HE.out]; rfl, by rw [HE.out]; exact FV.out⟩
  · have hrb : (re == 0) = false := by simpa using h0
    obtain ⟨s1, hs1⟩ : ∃ s1, s = s1 := ⟨_, rfl⟩
    have hA := HN.out h0
    rw [hs1] at hA HH
    have HE := Lib.hid (show awayM s nm = (s1, 0) by rw [hs1]; exact hA)
    have FV := Lib.hid (show FsV F B p (n + 2) m s1 w w from (FsV.refl HH.out).up (by omega) (Nat.le_refl _))
    clear hs1 hA CR CD HY HN
    go_wp2_with (fail)
    go_at_call 36
    (with_reducible refine (CC.out _ _ FV.out.hs).mono ?_)
    rintro _ w2 ⟨rfl, h2, b2, k2⟩
    rcases hc : s1.create nm with ⟨s2, e2⟩
    rw [hc] at h2
    simp only at h2 ⊢
    have G2 := Lib.hid (FV.out.then h2 b2 k2)
    by_cases he2 : e2 = 0
    rotate_left
    · have heb : (e2 != 0) = true := by simpa using he2
      have HR := Lib.hid (show replaceM s nm d = (s2, e2) by rw [← hc]; exact replaceM_2 HE.out (by rw [hc]; exact he2))
      clear hc h2 b2 k2 CC CA CS FV
      go_wp2_with (fail)
      go_ret
      exact ⟨by rw [HR.out]; rfl, by rw [HR.out]; exact G2.out.up (by omega) (by omega)⟩
    subst he2
    have HC := Lib.hid hc
    clear hc h2 b2 k2 CC FV
    go_wp2_with (fail)
    go_at_call 34
    (with_reducible refine (CA.out _ _ G2.out.hs).mono ?_)
    rintro _ w3 ⟨rfl, h3, b3, k3⟩
    rcases hap : s2.append nm d with ⟨s3, e3⟩
    rw [hap] at h3
    simp only at h3 ⊢
    have G3 := Lib.hid (G2.out.then h3 b3 k3)
    by_cases he3 : e3 = 0
    rotate_left
    · have heb : (e3 != 0) = true := by simpa using he3
      have HR := Lib.hid (show replaceM s nm d = (s3, e3) by rw [← hap]; exact replaceM_3 HE.out HC.out (by rw [hap]; exact he3))
      clear hap h3 b3 k3 CA CS G2
      go_wp2_with (fail)
      go_ret
      exact ⟨by rw [HR.out]; rfl, by rw [HR.out]; exact G3.out.up (by omega) (by omega)⟩
    subst he3
    have HR := Lib.hid (replaceM_4 HE.out HC.out hap)
    clear hap h3 b3 k3 CA G2
    go_wp2_with (fail)
    go_at_call 61
    (with_reducible refine (CS.out _ _ G3.out.hs).mono ?_)
    rintro _ w4 ⟨rfl, h4, b4, k4⟩
    have G4 := Lib.hid (G3.out.then h4 b4 k4)
    clear h4 b4 k4 CS G3
    rw [← HR.out] at G4
    have HQ := Lib.hid (congrArg Prod.snd HR.out)
    go_wp2_with (fail)
    go_ret
    exact ⟨by rw [HQ.out]; rfl, G4.out.up (by omega) (by omega)⟩
theorem lit_com : (⟨#[67, 85, 82, 82, 69, 78, 84, 126]⟩ : ByteArray).data.toList = comN := rfl
theorem lit_cur : (⟨#[67, 85, 82, 82, 69, 78, 84]⟩ : ByteArray).data.toList = curN := rfl
set_option maxHeartbeats 4000000 in
set_option maxRecDepth 100000 in
theorem switch_any (h : Hs F B p n m s w) (hN : n ≤ 80000) (hM : m ≤ 900000000) (NM : ByteArray) (hn : NM.size ≤ 1000) :
    Calls Tryz.prog 235 #[.pointer (some ⟨p, 0, none⟩), .string NM] w fun e w' => e = .returned (.int .i64 (switchM s NM.data.toList).2) ∧ FsV F B p (n + 9) (m + NM.size) (switchM s NM.data.toList).1 w w' := by
  have CR := Lib.hid (replace_any h (by omega) hM ⟨#[67, 85, 82, 82, 69, 78, 84, 126]⟩ NM (by decide) (by omega))
  rw [lit_com] at CR
  have CN := Lib.hid (fun (W : World) (s : St) (h : Hs F B p (n + 6) (m + NM.size) s W) => hs_rename h (by omega) ⟨#[67, 85, 82, 82, 69, 78, 84, 126]⟩ (by decide) ⟨#[67, 85, 82, 82, 69, 78, 84]⟩ (by decide))
  rw [lit_com, lit_cur] at CN
  have CD := Lib.hid (fun (W : World) (s : St) (h : Hs F B p (n + 8) (m + NM.size) s W) => hs_syncDir h (by omega))
  obtain ⟨nm, hnm⟩ : ∃ nm, NM.data.toList = nm := ⟨_, rfl⟩
  rw [hnm] at CR ⊢
  clear h hnm
  go_enter Tryz.func235, Tryz.ntmps235
  go_wp2_with (fail)
  go_at_call 233
  (with_reducible refine CR.out.mono ?_)
  rintro _ w1 ⟨rfl, f1⟩
  rcases hr : replaceM s comN nm with ⟨s1, e1⟩
  rw [hr] at f1
  simp only at f1 ⊢
  by_cases he : e1 = 0
  rotate_left
  · have heb : (e1 != 0) = true := by simpa using he
    have HR := Lib.hid (show switchM s nm = (s1, e1) by rw [← hr]; exact switchM_1 (by rw [hr]; exact he))
    have G := Lib.hid f1
    clear hr f1 CR CN CD
    go_wp2_with (fail)
    go_ret
    exact ⟨by rw [HR.out]; rfl, by rw [HR.out]; exact G.out.up (by omega) (Nat.le_refl _)⟩
  subst he
  have HE := Lib.hid hr
  have G1 := Lib.hid f1
  clear hr f1 CR
  go_wp2_with (fail)
  go_at_call 63
  (with_reducible refine (CN.out _ _ G1.out.hs).mono ?_)
  rintro _ w2 ⟨rfl, h2, b2, k2⟩
  rcases hc : s1.rename comN curN with ⟨s2, e2⟩
  rw [hc] at h2
  simp only at h2 ⊢
  have G2 := Lib.hid (G1.out.then h2 b2 k2)
  by_cases he : e2 = 0
  rotate_left
  · have heb : (e2 != 0) = true := by simpa using he
    have HR := Lib.hid (show switchM s nm = (s2, e2) by rw [← hc]; exact switchM_2 HE.out (by rw [hc]; exact he))
    clear hc h2 b2 k2 CN CD G1
    go_wp2_with (fail)
    go_ret
    exact ⟨by rw [HR.out]; rfl, by rw [HR.out]; exact G2.out.up (by omega) (Nat.le_refl _)⟩
  subst he
  have HR := Lib.hid (switchM_3 HE.out hc)
  clear hc h2 b2 k2 CN G1
  go_wp2_with (fail)
  go_at_call 62
  (with_reducible refine (CD.out _ _ G2.out.hs).mono ?_)
  rintro _ w3 ⟨rfl, h3, b3, k3⟩
  have G3 := Lib.hid (G2.out.then h3 b3 k3)
  clear h3 b3 k3 CD G2
  rw [← HR.out] at G3
  have HQ := Lib.hid (congrArg Prod.snd HR.out)
  go_wp2_with (fail)
  go_ret
  exact ⟨by rw [HQ.out]; rfl, G3.out.up (by omega) (by omega)⟩
end
end Go.Proofs.YtlecffpjcjlabaaGreat
