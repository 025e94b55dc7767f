/- What the program's block.Put and Get answer (BQ without Seek). -/
import Derived.Test.YtmnboiikopkaoaaGreatZE
namespace Go.Proofs.YtmnboiikopkaoaaGreat
open Go.RowKit

theorem getE_few {b : List UInt8} {l : List Ent} {e : Int} (h : getE b = (e, l)) : e ≠ 0 → l = [] := by
  intro he
  unfold getE at h
  split at h
  · exact (congrArg (·.2) h).symm
  · split at h
    · exact (congrArg (·.2) h).symm
    · split at h
      · exact absurd (congrArg (·.1) h).symm he
      · exact (congrArg (·.2) h).symm
/-- What is told are few, and their keys short. -/
theorem getE_small (b : List UInt8) : (getE b).2.length ≤ b.length ∧ ∀ x ∈ (getE b).2, x.k.size ≤ 300 := by
  rcases hg : getE b with ⟨e, l⟩
  by_cases he : e = 0
  · subst he
    obtain ⟨ho, hb⟩ := getE_ok hg
    constructor
    · show l.length ≤ b.length
      have h1 := bodyP_few l l.length
      have h2 : (bodyB l l.length).length ≤ (blkB l).length := by unfold blkB sealF; simp only [List.length_append]; omega
      rw [hb] at h2
      omega
    · intro x hx
      obtain ⟨i, hi, rfl⟩ := List.getElem_of_mem hx
      have := (ordB_at ho hi).1
      rw [entAt_get hi] at this
      exact (valid_parts this).1
  · have := getE_few hg he
    subst this
    exact ⟨Nat.zero_le _, fun x hx => by cases hx⟩
theorem blkB_size (es : List Ent) (hl : es.length ≤ 150) (hsz : sizeEs es ≤ 20000) (hok : ∀ x ∈ es, x.Ok) : (blkB es).length ≤ 60000 := by
  have h1 := bodyB_len es (by omega) (fun i hi => by
    rw [entAt_get hi]
    obtain ⟨-, h2, h3, h4, h5, -⟩ := hok _ (List.getElem_mem hi)
    omega) es.length (Nat.le_refl _)
  have h2 := sizeEs_le es es.length
  have h3 := tailB_cnt es es.length
  unfold blkB sealF
  simp only [List.length_append, be_length]
  omega
theorem putP_any {w : World} (a : Option Addr) (len cap : Nat) (es : List Ent) (hE : EntsAt w.heap.size w a len es) (hlm : len ≤ 150) (hcap : len ≤ cap) (hok : ∀ x ∈ es, x.Ok) (hsz : sizeEs es ≤ 20000) :
    Calls Tryz.prog 41 #[.slice a len cap] w fun e w' => e = .returned (putBV es) ∧ Below w.heap.size w w' := by
  have hll : es.length = len := hE.1
  have hb := blkB_size es (by omega) hsz hok
  rw [blkB_lay] at hb
  have h2 : (layB es).length ≤ (sealF (layB es)).length := by unfold sealF; rw [List.length_append]; omega
  exact put_walk a len cap es hE (by omega) hcap hok (by omega) (fun W hW ho => blay_any w.heap.size hW.size a len cap es (hE.below hW) (by omega) hok (by omega) ho)
open Go.ChangeShapes Go.WideShapes Go.ChangeAt Go.Deep in
theorem rowE_nil {H : Type} {enc : TypeId × Value → H} {w : World} {base fuel : Nat} {held : Bool} {a : Option Addr} {len cap : Nat} {x : DataW H × List MemPlace}
    (h : DataW.trod enc Tryz.prog w base (fun _ => true) held fuel 22 (Value.slice a len cap).cells.toList = some x) : a = none → cap = 0 := by
  rcases open_slice Tryz.underlying22 h with ⟨hcs, _⟩ | ⟨y, l, c, m, n, D, Pl, hcs, _⟩
  · simp [Value.cells] at hcs
    exact fun _ => hcs.2.2
  · simp [Value.cells] at hcs
    intro e
    rw [hcs.1] at e
    cases e
open Go.ChangeShapes Go.WideShapes Go.ChangeAt Go.Deep in
theorem rowE_cap {H : Type} {enc : TypeId × Value → H} {w : World} {base fuel : Nat} {held : Bool} {a : Option Addr} {len cap : Nat} {x : DataW H × List MemPlace}
    (h : DataW.trod enc Tryz.prog w base (fun _ => true) held fuel 22 (Value.slice a len cap).cells.toList = some x) : len ≤ cap ∧ cap ≤ maxLen := by
  rcases open_slice Tryz.underlying22 h with ⟨hcs, _⟩ | ⟨y, l, c, m, n, D, Pl, hcs, _, hl, hm, hmm, _, hx⟩
  · simp [Value.cells] at hcs
    obtain ⟨rfl, rfl, rfl⟩ := hcs
    exact ⟨Nat.le_refl _, Nat.zero_le _⟩
  · simp [Value.cells] at hcs
    obtain ⟨rfl, rfl, rfl⟩ := hcs
    exact ⟨hl, hm⟩
end Go.Proofs.YtmnboiikopkaoaaGreat
