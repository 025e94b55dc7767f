/- Contract of okey.Get: the parts of some bytes. -/
import Derived.Test.YtgoehmmmajdenaaGreatDoorK5
import Derived.Shelf.Strconv.Clone
namespace Go.Proofs.YtgoehmmmajdenaaGreatDoor
open Go.RowKit

/-- The parts of these kinds from the front on, what is left, and 0 or an error. -/
def rdAll : List UInt8 → List Int → List Prt × List UInt8 × Int
  | l, [] => ([], l, 0)
  | l, k :: ks => if (rdPart l k).2.2 ≠ 0 then ([], [], (rdPart l k).2.2) else if (rdAll (rdPart l k).2.1 ks).2.2 ≠ 0 then ([], [], (rdAll (rdPart l k).2.1 ks).2.2) else ((rdPart l k).1 :: (rdAll (rdPart l k).2.1 ks).1, (rdAll (rdPart l k).2.1 ks).2.1, 0)
def preAll (ps : List Prt) (y : List Prt × List UInt8 × Int) : List Prt × List UInt8 × Int := if y.2.2 ≠ 0 then ([], [], y.2.2) else (ps ++ y.1, y.2.1, 0)
theorem rdAll_cons (l : List UInt8) (k : Int) (ks : List Int) (h : (rdPart l k).2.2 = 0) : rdAll l (k :: ks) = preAll [(rdPart l k).1] (rdAll (rdPart l k).2.1 ks) := by
  rw [rdAll, if_neg (by simpa using h)]
  rfl
theorem rdAll_bad (l : List UInt8) (k : Int) (ks : List Int) (h : (rdPart l k).2.2 ≠ 0) : rdAll l (k :: ks) = ([], [], (rdPart l k).2.2) := by
  rw [rdAll, if_pos h]
theorem preAll_preAll (p q : List Prt) (x : List Prt × List UInt8 × Int) : preAll p (preAll q x) = preAll (p ++ q) x := by
  unfold preAll
  by_cases h : x.2.2 = 0 <;> simp [h]
theorem rdAll_errs (l : List UInt8) (ks : List Int) (h : (rdAll l ks).2.2 ≠ 0) : rdAll l ks = ([], [], (rdAll l ks).2.2) := by
  cases ks with
  | nil => exact absurd rfl h
  | cons k ks =>
    by_cases h1 : (rdPart l k).2.2 = 0
    · rw [rdAll_cons l k ks h1] at h ⊢
      unfold preAll at h ⊢
      by_cases h2 : (rdAll (rdPart l k).2.1 ks).2.2 ≠ 0
      · rw [if_pos h2]
      · rw [if_neg h2] at h; exact absurd rfl h
    · rw [rdAll_bad l k ks h1]
theorem preAll_nil (l : List UInt8) (ks : List Int) : preAll [] (rdAll l ks) = rdAll l ks := by
  unfold preAll
  by_cases h : (rdAll l ks).2.2 ≠ 0
  · rw [if_pos h, ← rdAll_errs l ks h]
  · rw [if_neg h]
    have h : (rdAll l ks).2.2 = 0 := by simpa using h
    simp; rw [← h]
theorem rdPart_lt (l : List UInt8) (k : Int) : (rdPart l k).2.1.length ≤ l.length := by
  have := rdKey_lt l
  unfold rdPart
  repeat' split
  all_goals simp
  all_goals omega
def okKind (k : Int) : Prop := 1 ≤ k ∧ k ≤ 3
instance (k : Int) : Decidable (okKind k) := inferInstanceAs (Decidable (_ ∧ _))
/-- What Get tells. -/
def rdGet (l : List UInt8) (ks : List Int) : List Prt × List UInt8 × Int := if ∀ k ∈ ks, okKind k then rdAll l ks else ([], [], 1)

theorem clone_any (s : ByteArray) (w : World) (hs : s.size < 4294967281) :
    Calls Tryz.prog 29 #[.string s] w fun e w' => e = .returned (.string s) ∧ Below w.heap.size w w' := by
  go_enter Tryz.func29, Tryz.ntmps29
  go_wp2_with (go_at_call 96; refine (Tryz.stringslite_Clone s _ (by omega)).mono ?_; rintro e w1 ⟨rfl, hb⟩)
  go_ret
  exact ⟨rfl, hb⟩

theorem own_below {w w' : World} {B e size n : Nat} {v : Value} {xs : List Value} (h : w.ownsRow B e size v n xs) (hb : Below w.heap.size w w') : w'.ownsRow B e size v n xs :=
  h.kept (row := none) ⟨hb.os, hb.tape, hb.output, hb.size, fun k hk _ => hb.block k hk⟩ (Classical.em _)

def partsCells (ps : List Prt) : List Value := (ps.map Prt.cells).flatten
theorem partsCells_snoc (ps : List Prt) (p : Prt) : partsCells (ps ++ [p]) = partsCells ps ++ p.cells := by simp [partsCells]
theorem partsCells_length (ps : List Prt) : (partsCells ps).length = ps.length * 4 := by
  induction ps with
  | nil => rfl
  | cons p r ih =>
    have : partsCells (p :: r) = p.cells ++ partsCells r := by simp [partsCells]
    rw [this, List.length_append, ih]
    simp [Prt.cells]; omega

/-- What Get answers: a row of its own that holds the parts. -/
def TellsGet (w : World) (x : List Prt × List UInt8 × Int) (e : Ending) (w' : World) : Prop :=
  ∃ v, e = .returned (.tuple #[v, .string ⟨x.2.1.toArray⟩, .int .i64 x.2.2]) ∧ w'.ownsRow w.heap.size 66 4 v x.1.length (partsCells x.1) ∧ Below w.heap.size w w'

theorem infoPart : (Tryz.prog.info? 66).map (fun i => (i.zero, i.size, i.bytes)) = some (some (.agg #[.int .i64 0, .string ⟨#[]⟩, .int .u64 0, .int .i64 0]), 4, 40) := by kernel_rfl

set_option maxHeartbeats 1000000 in
set_option maxRecDepth 100000 in
theorem get_bad (s : ByteArray) (b off cap j : Nat) (ks : List Int) (w : World) (hj : j < ks.length) (hlen : ks.length ≤ 1000000) (hbad : ¬ okKind ks[j]) (hgood : ∀ i (h : i < ks.length), i < j → okKind ks[i])
    (hc : ∀ i (h : i < ks.length), w.cell? ⟨b, off + i, none⟩ = some (.int .i64 ks[i])) :
    Calls Tryz.prog 10 #[.string s, .slice (some ⟨b, off, none⟩) ks.length cap] w fun e w' => e = .returned (.tuple #[.slice none 0 0, .string ⟨#[]⟩, .int .i64 1]) ∧ w = w' := by
  go_enter Tryz.func10, Tryz.ntmps10
  go_wp2
  go_loop [17] (fun i => ∃ k : Nat, k ≤ j ∧ i = .int .i64 k) (fun i => j - (intOf i).toNat)
  case atStart => exact ⟨0, Nat.zero_le _, rfl⟩
  case round =>
    obtain ⟨k, hk, rfl⟩ := hrel
    have hkl : k < ks.length := by omega
    have hcx := hc k hkl
    by_cases hkj : k = j
    · subst hkj
      have hno : ks[k] < 1 ∨ 3 < ks[k] := by unfold okKind at hbad; omega
      go_wp2_with (go_at_call 27; refine (isKind_no _ _ hno).mono ?_; rintro e w1 ⟨rfl, rfl⟩)
      go_ret3
      exact ⟨rfl, rfl⟩
    · have hyes := hgood k hkl (by omega)
      go_wp2_with (go_at_call 27; refine (isKind_yes _ _ hyes.1 hyes.2).mono ?_; rintro e w1 ⟨rfl, rfl⟩)
      go_round
      case rel => exact ⟨k + 1, by omega, by go_num⟩
      case measure => simp [intOf]; omega

set_option maxHeartbeats 2000000 in
set_option maxRecDepth 100000 in
theorem get_good (s : ByteArray) (b off cap : Nat) (ks : List Int) (w : World) (hs : s.size < 4294967281) (hm : Max w) (hlen : ks.length ≤ 1000000) (hgood : ∀ i (h : i < ks.length), okKind ks[i])
    (hc : ∀ i (h : i < ks.length), w.cell? ⟨b, off + i, none⟩ = some (.int .i64 ks[i])) (hb : b < w.heap.size) :
    Calls Tryz.prog 10 #[.string s, .slice (some ⟨b, off, none⟩) ks.length cap] w fun e w' => TellsGet w (rdAll s.data.toList ks) e w' := by
  obtain ⟨i0, hi, hz0, hz1, hz2⟩ := info_parts infoPart
  go_enter Tryz.func10, Tryz.ntmps10
  go_wp2
  go_loop [17] (fun i => ∃ k : Nat, k ≤ ks.length ∧ i = .int .i64 k) (fun i => ks.length - (intOf i).toNat)
  case atStart => exact ⟨0, Nat.zero_le _, rfl⟩
  case round =>
    obtain ⟨k, hk, rfl⟩ := hrel
    by_cases hkl : k < ks.length
    · have hcx := hc k hkl
      have hyes := hgood k hkl
      go_wp2_with (go_at_call 27; refine (isKind_yes _ _ hyes.1 hyes.2).mono ?_; rintro e w1 ⟨rfl, rfl⟩)
      go_round
      case rel => exact ⟨k + 1, by omega, by go_num⟩
      case measure => simp [intOf]; omega
    · have hke : k = ks.length := by omega
      subst hke
      clear hkl hk
      go_wp2
      go_loopw [0, 9, 27] (fun vb vl i wr => ∃ (k : Nat) (X : ByteArray) (ps : List Prt), k ≤ ks.length ∧ i = .int .i64 k ∧ vb = .string X ∧ X.size ≤ s.size ∧ ps.length = k ∧ wr.ownsRow w.heap.size 66 4 vl ps.length (partsCells ps) ∧ Below w.heap.size w wr ∧ Hid (rdAll s.data.toList ks = preAll ps (rdAll X.data.toList (ks.drop k)))) (fun _ _ i _ => ks.length - (intOf i).toNat)
      case atStart => exact ⟨0, s, [], Nat.zero_le _, rfl, rfl, Nat.le_refl _, rfl, World.ownsRow_nil _ _ _ _, Below.refl _ _, (preAll_nil _ _).symm⟩
      case round =>
        obtain ⟨k, X, ps, hk, rfl, rfl, hX, hps, hown, hbel, HX⟩ := hrel
        by_cases hkl : k < ks.length
        · have hcx : wr.cell? ⟨b, off + k, none⟩ = some (.int .i64 ks[k]) := (hbel.cell (by exact hb)).trans (hc k hkl)
          have hyes := hgood k hkl
          have hmx : Max wr := hm.below hbel hm.lt
          have hcut := Lib.hid (cut_any X ks[k] wr (by omega) hmx hyes.1 hyes.2)
          have hdrop : ks.drop k = ks[k] :: ks.drop (k + 1) := List.drop_eq_getElem_cons hkl
          have HX1 := Lib.hid (HX.out.trans (by rw [hdrop]))
          have hrl := Lib.hid (rdPart_lt X.data.toList ks[k])
          have hE := Lib.hid (rdAll_cons X.data.toList ks[k] (ks.drop (k + 1)))
          have hB := Lib.hid (rdAll_bad X.data.toList ks[k] (ks.drop (k + 1)))
          generalize rdPart X.data.toList ks[k] = x at hcut hrl hE hB
          obtain ⟨⟨kd, sx, n, ii⟩, r, er⟩ := x
          simp only [partVal, Prt.val] at hcut
          by_cases her : er = 0
          · subst her
            have hpl : ps.length + 1 ≤ 1000001 := by omega
            go_wp2_with (first | (go_at_call 28; refine hcut.out.mono ?_; rintro e w1 ⟨rfl, hb1⟩; have hown1 := own_below hown hb1) | (at_builtin; refine wpList_append_own _ rfl _ _ 22 rfl w.heap.size 66 i0 _ 4 40 Tryz.underlying22 hi hz0 hz1 hz2 rfl (by decide) _ _ _ rfl ((hown1.alloc _).alloc _) ⟨w1.heap.size + 1, 0, none⟩ 1 1 [Value.int .i64 kd, Value.string ⟨sx.toArray⟩, Value.int .u64 (n : Int), Value.int .i64 ii] rfl rfl ?c1 ?c2 ?c3 ?c4 ?c5 ?_))
            case c1 =>
              intro j u hj
              match j, hj with
              | 0, hj => simp at hj; subst hj; simp [Addr.add]
              | 1, hj => simp at hj; subst hj; simp [Addr.add]
              | 2, hj => simp at hj; subst hj; simp [Addr.add]
              | 3, hj => simp at hj; subst hj; simp [Addr.add]
            case c2 => intro u hu; simp at hu; rcases hu with rfl | rfl | rfl | rfl <;> rfl
            case c3 => unfold maxLen; omega
            case c4 => omega
            case c5 => have h1 := hbel.size; have h2 := hb1.size; simp; omega
            intro v' w2 hown' hgrow _
            have hbel1 : Below w.heap.size w w1 := hbel.trans (hb1.mono hbel.size)
            have hbel2 : Below w.heap.size w w2 := ((hbel1.alloc hbel1.size _).alloc (by have := hbel1.size; simp; omega) _).grown hgrow (by have := hbel1.size; simp; omega) (fun k hk => (hown1.lt k hk).1)
            go_wp2
            go_roundw
            case rel =>
              refine ⟨k + 1, _, ps ++ [⟨kd, sx, n, ii⟩], by omega, by go_num, rfl, ?_, by simp [hps], ?_, hbel2, ?_⟩
              · have h1 : r.length ≤ X.data.toList.length := hrl.out
                have h2 : X.data.toList.length = X.size := rfl
                have h3 : (⟨r.toArray⟩ : ByteArray).size = r.length := rfl
                omega
              · rw [partsCells_snoc, List.length_append, hps]
                exact hown'
              · show _ = _
                rw [HX1.out, hE.out (by trivial), preAll_preAll]
            case measure => simp [intOf]; omega
          · have hne : (er != 0) = true := by simpa using her
            have HV := Lib.hid (show rdAll s.data.toList ks = ([], [], er) by
              rw [HX1.out, hB.out her]; simp [preAll, her])
            clear hE hB HX HX1 hdrop
            go_wp2_with (first | (go_at_call 28; refine hcut.out.mono ?_; rintro e w1 ⟨rfl, hb1⟩))
            go_ret3
            rw [HV.out]
            refine ⟨_, rfl, World.ownsRow_nil _ _ _ _, ?_⟩
            have hbel1 : Below w.heap.size w w1 := hbel.trans (hb1.mono hbel.size)
            exact hbel1.alloc hbel1.size _
        · have hke : k = ks.length := by omega
          subst hke
          have HV := Lib.hid (show rdAll s.data.toList ks = (ps, X.data.toList, 0) by
            rw [HX.out, List.drop_length]; simp [preAll, rdAll])
          have hX2 : X.size < 4294967281 := by omega
          clear HX hkl hk
          go_wp2_with (go_at_call 29; refine (clone_any X _ hX2).mono ?_; rintro e w1 ⟨rfl, hb1⟩)
          go_ret3
          rw [HV.out]
          exact ⟨_, rfl, hps ▸ own_below hown hb1, hbel.trans (hb1.mono hbel.size)⟩
/-- A row of ints in memory. -/
def IsRowI (w : World) (a : Option Addr) (ks : List Int) : Prop :=
  ks = [] ∨ ∃ b off, a = some ⟨b, off, none⟩ ∧ ∀ i (h : i < ks.length), w.cell? ⟨b, off + i, none⟩ = some (.int .i64 ks[i])

set_option maxHeartbeats 1000000 in
set_option maxRecDepth 100000 in
theorem get_none (s : ByteArray) (a : Option Addr) (cap : Nat) (w : World) (hs : s.size < 4294967281) :
    Calls Tryz.prog 10 #[.string s, .slice a 0 cap] w fun e w' => TellsGet w ([], s.data.toList, 0) e w' := by
  go_enter Tryz.func10, Tryz.ntmps10
  go_wp2
  refine wp_loop_rounds 1 ?_
  rw [rounds_succ]
  go_wp2
  refine wp_loop_rounds 1 ?_
  rw [rounds_succ]
  go_wp2_with (go_at_call 29; refine (clone_any s _ hs).mono ?_; rintro e w1 ⟨rfl, hb1⟩)
  go_ret3
  exact ⟨_, rfl, World.ownsRow_nil _ _ _ _, hb1⟩

theorem first_bad : ∀ (ks : List Int), (∀ k ∈ ks, okKind k) ∨ ∃ j, ∃ h : j < ks.length, ¬ okKind ks[j] ∧ ∀ i (hi : i < ks.length), i < j → okKind ks[i]
  | [] => .inl (by simp)
  | k :: ks => by
    by_cases hk : okKind k
    · rcases first_bad ks with h | ⟨j, h, h1, h2⟩
      · left
        intro x hx
        rcases List.mem_cons.1 hx with rfl | hx
        · exact hk
        · exact h x hx
      · right
        refine ⟨j + 1, by simp; omega, by simpa using h1, ?_⟩
        intro i hi hij
        cases i with
        | zero => exact hk
        | succ i => simpa using h2 i (by simpa using hi) (by omega)
    · exact .inr ⟨0, by simp, hk, fun i _ h => by omega⟩

theorem get_any (s : ByteArray) (a : Option Addr) (cap : Nat) (ks : List Int) (w : World) (hs : s.size < 4294967281) (hm : Max w) (hlen : ks.length ≤ 1000000) (hr : IsRowI w a ks) :
    Calls Tryz.prog 10 #[.string s, .slice a ks.length cap] w fun e w' => TellsGet w (rdGet s.data.toList ks) e w' := by
  rcases hr with rfl | ⟨b, off, rfl, hc⟩
  · exact get_none s a cap w hs
  · rcases first_bad ks with h | ⟨j, hj, h1, h2⟩
    · rw [rdGet, if_pos h]
      rcases Nat.eq_zero_or_pos ks.length with h0 | h0
      · obtain rfl := List.eq_nil_of_length_eq_zero h0
        exact get_none s _ cap w hs
      · exact get_good s b off cap ks w hs hm hlen (fun i hi => h _ (List.getElem_mem hi)) hc (block_lt (hc 0 h0))
    · rw [rdGet, if_neg (fun h => h1 (h _ (List.getElem_mem hj)))]
      refine (get_bad s b off cap j ks w hj hlen h1 h2 hc).mono ?_
      rintro e w1 ⟨rfl, rfl⟩
      exact ⟨_, rfl, World.ownsRow_nil _ _ _ _, Below.refl _ _⟩
end Go.Proofs.YtgoehmmmajdenaaGreatDoor
