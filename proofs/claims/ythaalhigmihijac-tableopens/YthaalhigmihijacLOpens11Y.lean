/- Joined: TG LOpens11X. -/
import Derived.Test.YthaalhigmihijacLOpens11W
import Derived.Test.YthaalhigmihijacUD
import Derived.Test.YthaalhigmihijacLAlive11
namespace Go.Proofs.Ythaalhigmihijac
open Go.RowKit

/-- What Open may tell of bytes. -/
theorem openT_cases (b : ByteArray) : (∃ er : Int, er ≠ 0 ∧ openT b = (er, none) ∧ (b.size < 28 → er = 5)) ∨ (28 ≤ b.size ∧ ∃ q, openT b = (0, some q) ∧ q.n = 0 ∧ q.ps ≠ [] ∧ q.ps.length ≤ b.size ∧ (∀ x ∈ q.ps, x.b.size ≤ b.size) ∧ q.fil.size ≤ b.size) := by
  obtain ⟨e, a, n, c, m, hf⟩ : ∃ e a n c m, rdFoot b.data.toList = (e, a, n, c, m) := ⟨_, _, _, _, _, rfl⟩
  by_cases h28 : b.size < 28
  · refine .inl ⟨5, by decide, ?_, fun _ => rfl⟩
    have : rdFoot b.data.toList = (5, 0, 0, 0, 0) := by unfold rdFoot; rw [len_data', if_pos h28]
    unfold openT
    rw [this]
    rfl
  · by_cases he : e = 0
    · subst he
      obtain ⟨-, hac, hcm⟩ := rdFoot_ok hf
      rw [len_data'] at hcm
      have hO : openT b = (if (opn ((b.data.toList.drop a).take n)).1 ≠ 0 then ((opn ((b.data.toList.drop a).take n)).1, none) else if isFilB (opn ((b.data.toList.drop a).take n)).2 = false then (4, none) else if (opn ((b.data.toList.drop c).take m)).1 ≠ 0 then ((opn ((b.data.toList.drop c).take m)).1, none) else match rdIdx ⟨(opn ((b.data.toList.drop c).take m)).2.toArray⟩ (b.extract 0 a) with
        | none => (4, none)
        | some (ps, last, cnt) => if fitsB ((opn ((b.data.toList.drop a).take n)).2.length - 1) cnt = false then (4, none) else (0, some ⟨ps, last, cnt, ⟨(opn ((b.data.toList.drop a).take n)).2.toArray⟩, 0⟩)) := by
        unfold openT
        simp only [hf]
        rw [if_neg (by simp)]
        rfl
      have hl1 := opn_len ((b.data.toList.drop a).take n)
      have hl2 := opn_len ((b.data.toList.drop c).take m)
      rw [List.length_take, List.length_drop, len_data'] at hl1 hl2
      generalize opn ((b.data.toList.drop a).take n) = U1 at *
      generalize opn ((b.data.toList.drop c).take m) = U2 at *
      by_cases h1 : U1.1 = 0
      · rw [if_neg (by rw [h1]; simp)] at hO
        by_cases h2 : isFilB U1.2 = false
        · rw [if_pos h2] at hO
          exact .inl ⟨4, by decide, hO, fun h => absurd h h28⟩
        · rw [if_neg h2] at hO
          by_cases h3 : U2.1 = 0
          · rw [if_neg (by rw [h3]; simp)] at hO
            cases hix : rdIdx ⟨U2.2.toArray⟩ (b.extract 0 a) with
            | none =>
              rw [hix] at hO
              exact .inl ⟨4, by decide, hO, fun h => absurd h h28⟩
            | some t =>
              obtain ⟨ps, last, cnt⟩ := t
              rw [hix] at hO
              simp only at hO
              by_cases h4 : fitsB (U1.2.length - 1) cnt = false
              · rw [if_pos h4] at hO
                exact .inl ⟨4, by decide, hO, fun h => absurd h h28⟩
              · rw [if_neg h4] at hO
                obtain ⟨f1, f2, f3, f4⟩ := rdIdx_some hix
                have hz : (⟨U2.2.toArray⟩ : ByteArray).size = U2.2.length := by rw [← len_data']
                rw [hz] at f1 f2
                refine .inr ⟨by omega, _, hO, rfl, fun e => ?_, ?_, fun x hx => ?_, ?_⟩
                · simp only at e
                  rw [e] at f3
                  cases f3
                · simp only; omega
                · have h5 := (f4 x hx).1
                  rw [ByteArray.size_extract] at h5
                  omega
                · show (⟨U1.2.toArray⟩ : ByteArray).size ≤ b.size
                  rw [← len_data']
                  show U1.2.length ≤ b.size
                  omega
          · rw [if_pos h3] at hO
            exact .inl ⟨_, h3, hO, fun h => absurd h h28⟩
      · rw [if_pos h1] at hO
        exact .inl ⟨_, h1, hO, fun h => absurd h h28⟩
    · refine .inl ⟨e, he, ?_, fun h => absurd h h28⟩
      unfold openT
      simp only [hf]
      rw [if_pos he]
/-- A reader of any bytes. -/
structure AnyP (B : Nat) (w : World) (p : Nat) : Prop where
  ex : ∃ F q, RdAt w p F q ∧ (∀ k ∈ F, B ≤ k) ∧ q.n = 0 ∧ q.ps ≠ [] ∧ q.ps.length ≤ 100000 ∧ (∀ x ∈ q.ps, x.b.size ≤ 100000) ∧ q.fil.size ≤ 1000000
theorem opnC : OpnC AnyP where
  opens := fun b w hb => by
    refine (topen_any b w (by omega)).mono ?_
    rintro e w' ⟨hbl, h1, h2⟩
    refine ⟨?_, hbl⟩
    rcases openT_cases b with ⟨er, he, ho, h28⟩ | ⟨h28, q, ho, hn, hne, hl, hbs, hf⟩
    · exact .inl ⟨er, he, h28, h1 er ho⟩
    · obtain ⟨p, F, rfl, hr, hF⟩ := h2 0 q ho
      exact .inr ⟨h28, p, rfl, ⟨F, q, hr, hF, hn, hne, by omega, fun x hx => Nat.le_trans (hbs x hx) hb, by omega⟩⟩
  get := fun {B w p} key seq h hB hk hs => by
    obtain ⟨F, q, hr, hF, hn, hne, hl, hbs, hf⟩ := h.ex
    refine (rget_any hr hne hl hbs hf (by rw [hn]; omega) key (by omega) seq).mono ?_
    rintro e w' (⟨-, rfl, -, ht⟩ | ⟨-, k, -, rfl, -, ht⟩)
    · exact ⟨Ent.zero, false, 0, rfl, .inl rfl, (fun h => by cases h), ht.below hB (fun x hx => by simp at hx; subst hx; exact hF _ hr.mem)⟩
    · have hg := goG_key key seq (q.ps.drop k)
      generalize goG key seq (q.ps.drop k) = G at *
      obtain ⟨c, er, o⟩ := G
      have hb := ht.below hB (fun x hx => by simp at hx; subst hx; exact hF _ hr.mem)
      cases o with
      | none => exact ⟨Ent.zero, false, er, rfl, .inr rfl, (fun h => by cases h), hb⟩
      | some x => exact ⟨x, true, er, rfl, .inl (hg x rfl).2, fun _ => (hg x rfl).1, hb⟩
end Go.Proofs.Ythaalhigmihijac

namespace Go.Proofs.Ythaalhigmihijac
open Go.RowKit

theorem tableOpens_walk (a : Option Addr) (len cap : Nat) (es : List Ent) (cut : Int) (_ : -9223372036854775808 ≤ cut) (_ : cut ≤ 9223372036854775807) (s : ByteArray) (hs : s.size ≤ maxLen) (key : ByteArray) (hk : key.size ≤ maxLen) (w : World) (hI : IsEs w a len es) (_hnil : a = none → cap = 0) (hcap : len ≤ cap ∧ cap ≤ maxLen) :
    Calls Try.prog 4 #[.slice a len cap, .int .i64 cut, .string s, .string key] w fun e w' => e = .returned (.bool true) ∧ Below w.heap.size w w' :=
  tableOpens_hard tabC opnC (alive11 tabC name7) a len cap es cut s hs key hk hI hcap.1
end Go.Proofs.Ythaalhigmihijac
