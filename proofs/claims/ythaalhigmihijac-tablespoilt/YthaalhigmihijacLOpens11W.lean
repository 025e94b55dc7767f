/- TableOpens' walk, over what is asked of the program's table and of a reader of any bytes; alive is a premise. -/
import Derived.Test.YthaalhigmihijacTM
namespace Go.Proofs.Ythaalhigmihijac
open Go.RowKit

/-- What is asked of Open and Get of any bytes: AnyT B w p: a reader at block p, all of whose blocks lie from B on. -/
structure OpnC (AnyT : Nat → World → Nat → Prop) : Prop where
  opens : ∀ (b : ByteArray) (w : World), b.size ≤ 100000 → Calls Try.prog 10 #[.string b] w fun e w' => ((∃ er : Int, er ≠ 0 ∧ (b.size < 28 → er = 5) ∧ e = .returned (.tuple #[.pointer none, .int .i64 er])) ∨ (28 ≤ b.size ∧ ∃ p, e = .returned (.tuple #[.pointer (some ⟨p, 0, none⟩), .int .i64 0]) ∧ AnyT w.heap.size w' p)) ∧ Below w.heap.size w w'
  get : ∀ {B : Nat} {w : World} {p : Nat} (key : ByteArray) (seq : Nat), AnyT B w p → B ≤ w.heap.size → key.size ≤ 3000 → seq < 18446744073709551616 →
    Calls Try.prog 11 #[.pointer (some ⟨p, 0, none⟩), .string key, .int .u64 (seq : Int)] w fun e w' => ∃ (x : Ent) (t : Bool) (er : Int), e = .returned (.tuple #[.agg #[.string x.k, .int .u64 x.s, .int .i64 x.n, .string x.v], .bool t, .int .i64 er]) ∧ (er = 0 ∨ t = false) ∧ (t = true → x.k = key) ∧ Below B w w'
set_option maxHeartbeats 8000000 in
set_option maxRecDepth 100000 in
theorem tableOpens_hard {Tbl : World → Nat → List Nat → List Ent → Nat → Prop} (T : TabC Tbl) {AnyT : Nat → World → Nat → Prop} (O : OpnC AnyT) {w : World} (CA : ∀ W : World, Calls Try.prog 8 #[] W fun e w' => e = .returned (.bool true) ∧ Below W.heap.size W w') (a : Option Addr) (len cap : Nat) (es : List Ent) (cut : Int) (s : ByteArray) (hsm : s.size ≤ maxLen) (key : ByteArray) (hkm : key.size ≤ maxLen) (hI : IsEs w a len es) (hcap : len ≤ cap) :
    Calls Try.prog 4 #[.slice a len cap, .int .i64 cut, .string s, .string key] w fun e w' => e = .returned (.bool true) ∧ Below w.heap.size w w' := by
  obtain ⟨hlm, hok, hE⟩ := hI
  have HCA := Lib.hid CA
  have CS := Lib.hid (smallS_any a len cap es hE (by unfold maxLen at hlm; omega) hok)
  have hll : es.length = len := hE.1
  subst hll
  have HE := Lib.hid hE
  have HOK := Lib.hid hok
  have hk63 : key.size ≤ 9223372036854775807 := by unfold maxLen at hkm; omega
  have hs63 : s.size ≤ 9223372036854775807 := by unfold maxLen at hsm; omega
  clear CA hlm hok hE hkm hsm
  go_enter Try.func4, Try.ntmps4
  go_wp2_with (fail)
  go_at_call 6
  refine CS.out.mono ?_
  rintro _ w1 ⟨t, rfl, ht, b1⟩
  have HB1 := Lib.hid b1
  clear CS b1
  cases t with
  | false =>
    go_wp2_with (go_at_call 8; refine (HCA.out _).mono ?_; rintro _ w2 ⟨rfl, b2⟩)
    go_ret
    exact ⟨rfl, HB1.out.trans (b2.mono HB1.out.size)⟩
  | true =>
    obtain ⟨h150, hsz⟩ := ht rfl
    by_cases hall : 0 ≤ cut ∧ s.size ≤ 3000 ∧ key.size ≤ 300
    · obtain ⟨hc0, hs3, hk3⟩ := hall
      have d0 : decide (cut < 0) = false := by simp; omega
      have d1 : decide ((3000 : Int) < (s.size : Int)) = false := by simp; omega
      have d2 : decide ((300 : Int) < (key.size : Int)) = false := by simp; omega
      obtain ⟨c, rfl⟩ : ∃ c : Nat, cut = (c : Int) := ⟨cut.toNat, by omega⟩
      have C2 := Lib.hid (T.put (w := w1) a es.length cap es ((HE.out.below HB1.out).mono HB1.out.size) h150 hcap HOK.out hsz)
      by_cases hor : es ≠ [] ∧ ordB es es.length = true
      · have hF : FineT es := ⟨hor.1, hor.2, h150, hsz, HOK.out⟩
        obtain ⟨Z, hZ, hZd⟩ := tabV_yes hF
        have hZs : Z.size ≤ 100000 := by rw [← len_data', hZd]; exact tabB_few hF
        rw [hZ] at C2
        go_wp2_with fail
        go_at_call 9
        refine C2.out.mono ?_
        rintro _ w2 ⟨rfl, b2⟩
        have HB2 := Lib.hid (HB1.out.trans (b2.mono HB1.out.size))
        clear C2 b2 HB1 hZ hZd hor
        go_upto_if 47 with fail
        go_cut [11, 12] from 47 to 67 (fun v11 v12 wx => Below w.heap.size w wx)
        case first =>
          by_cases hcz : c < Z.size
          · have hczI : (c : Int) < (Z.size : Int) := by omega
            obtain ⟨Y, hY⟩ : ∃ Y, Z.extract 0 c = Y := ⟨_, rfl⟩
            have hYs : Y.size = c := by rw [← hY, ByteArray.size_extract]; omega
            have CO := Lib.hid (O.opens Y w2 (by omega))
            go_wp2_with fail
            go_at_call 10
            refine CO.out.mono ?_
            rintro _ w3 ⟨hres, b3⟩
            have HB3 := Lib.hid (HB2.out.trans (b3.mono HB2.out.size))
            rcases hres with ⟨er, her, h28, rfl⟩ | ⟨h28, p, rfl, -⟩
            · have her1 : (er == 0) = false := by simpa using her
              by_cases hc28 : c < 28
              · obtain rfl := h28 (by omega)
                have hc28I : (c : Int) < 28 := by omega
                clear her her1
                go_wp2
                go_meet
                exact HB3.out
              · have hc28I : decide ((c : Int) < 28) = false := by simp; omega
                have hc28N : decide (c < 28) = false := by simp; omega
                clear h28
                go_wp2
                go_meet
                exact HB3.out
            · have hc28I : decide ((c : Int) < 28) = false := by simp; omega
              have hc28N : decide (c < 28) = false := by simp; omega
              go_wp2
              go_meet
              exact HB3.out
          · have hczI : ¬ (c : Int) < (Z.size : Int) := by omega
            go_wp2
            go_meet
            exact HB2.out
        case rest =>
          have HB3 := Lib.hid hcut
          have CO := Lib.hid (O.opens s wc (by omega))
          clear HB2 hcut
          go_wp2_with fail
          go_at_call 10
          refine CO.out.mono ?_
          rintro _ w4 ⟨hres, b4⟩
          have HB4 := Lib.hid (HB3.out.trans (b4.mono HB3.out.size))
          rcases hres with ⟨er, her, h28, rfl⟩ | ⟨h28, p, rfl, hA⟩
          · have her1 : (er == 0) = false := by simpa using her
            have her2 : (er != 0) = true := by simpa using her
            clear h28 b4
            go_wp2_with (go_at_call 8; (with_reducible refine (HCA.out _).mono ?_); rintro _ w5 ⟨rfl, b5⟩)
            go_ret
            exact ⟨rfl, HB4.out.trans (b5.mono HB4.out.size)⟩
          · have CG := Lib.hid (O.get key 9223372036854775808 hA b4.size (by omega) (by omega))
            rw [show ((9223372036854775808 : Nat) : Int) = 9223372036854775808 from rfl] at CG
            have hbs := HB3.out.size
            clear hA b4 CO
            go_wp2_with fail
            go_at_call 11
            refine CG.out.mono ?_
            rintro _ w5 ⟨x, t, er, rfl, h1, h2, b5⟩
            have HB5 := Lib.hid (show Below w.heap.size w w5 from HB4.out.trans (b5.mono hbs))
            go_upto_region 16 with fail
            obtain ⟨W6, hW6⟩ : ∃ W6, w5.alloc (.cells #[.string x.k, .int .u64 x.s, .int .i64 x.n, .string x.v] 36) = W6 := ⟨_, rfl⟩
            have hb6 : Below w5.heap.size w5 W6 := by rw [← hW6]; exact (Below.refl _ _).alloc (Nat.le_refl _) _
            have hbx : Boxe w5.heap.size x.k x.s x.n x.v W6 := by rw [← hW6]; exact new_block _ _ rfl
            rw [hW6]
            have HB6 := Lib.hid (HB5.out.trans (hb6.mono HB5.out.size))
            have HBX := Lib.hid hbx
            generalize w5.heap.size = X at HBX ⊢
            clear hW6 hb6 hbx b5
            cases t with
            | false =>
              cases hez : (er == 0) with
              | true =>
                go_wp2_with (go_at_call 8; (with_reducible refine (HCA.out _).mono ?_); rintro _ w7 ⟨rfl, b7⟩)
                go_ret
                exact ⟨rfl, HB6.out.trans (b7.mono HB6.out.size)⟩
              | false =>
                go_wp2_with (go_at_call 8; (with_reducible refine (HCA.out _).mono ?_); rintro _ w7 ⟨rfl, b7⟩)
                go_ret
                exact ⟨rfl, HB6.out.trans (b7.mono HB6.out.size)⟩
            | true =>
              have her : er = 0 := by
                rcases h1 with h | h
                · exact h
                · cases h
              subst her
              have hxk : x.k = key := h2 (by first | rfl | trivial)
              rw [hxk] at HBX
              clear h1 h2 hxk
              go_wp2_with (go_at_call 8; (with_reducible refine (HCA.out _).mono ?_); rintro _ w7 ⟨rfl, b7⟩; have q0 : w7.cell? ⟨X, 0, none⟩ = some (.string key) := (HBX.out.below b7).c0)
              go_ret
              exact ⟨rfl, HB6.out.trans (b7.mono HB6.out.size)⟩
      · rw [tabV_no hor] at C2
        go_wp2_with (first | (go_at_call 9; refine C2.out.mono ?_; rintro _ w2 ⟨rfl, b2⟩) | (go_at_call 8; refine (HCA.out _).mono ?_; rintro _ w3 ⟨rfl, b3⟩) | fail)
        go_ret
        exact ⟨rfl, (HB1.out.trans (b2.mono HB1.out.size)).trans (b3.mono (Nat.le_trans HB1.out.size b2.size))⟩
    · obtain ⟨t, htd⟩ : ∃ t : Bool, (decide (cut < 0) || decide ((3000 : Int) < (s.size : Int)) || decide ((300 : Int) < (key.size : Int))) = t := ⟨_, rfl⟩
      by_cases hc0 : cut < 0
      · have d0 : decide (cut < 0) = true := decide_eq_true hc0
        go_wp2_with (go_at_call 8; refine (HCA.out _).mono ?_; rintro _ w2 ⟨rfl, b2⟩)
        go_ret
        exact ⟨rfl, HB1.out.trans (b2.mono HB1.out.size)⟩
      · have d0 : decide (cut < 0) = false := decide_eq_false hc0
        by_cases hs3 : s.size ≤ 3000
        · have d1 : decide ((3000 : Int) < (s.size : Int)) = false := by simp; omega
          have d2 : decide ((300 : Int) < (key.size : Int)) = true := by simp; omega
          go_wp2_with (go_at_call 8; refine (HCA.out _).mono ?_; rintro _ w2 ⟨rfl, b2⟩)
          go_ret
          exact ⟨rfl, HB1.out.trans (b2.mono HB1.out.size)⟩
        · have d1 : decide ((3000 : Int) < (s.size : Int)) = true := by simp; omega
          go_wp2_with (go_at_call 8; refine (HCA.out _).mono ?_; rintro _ w2 ⟨rfl, b2⟩)
          go_ret
          exact ⟨rfl, HB1.out.trans (b2.mono HB1.out.size)⟩
end Go.Proofs.Ythaalhigmihijac
