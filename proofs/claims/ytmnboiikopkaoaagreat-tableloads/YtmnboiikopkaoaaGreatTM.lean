/- Joined: TB TD TF. -/
import Derived.Test.YtmnboiikopkaoaaGreatU1
import Derived.Test.YtmnboiikopkaoaaGreatTK
namespace Go.Proofs.YtmnboiikopkaoaaGreat
open Go.RowKit

/-- Of versions in order the first one that fits is picked. -/
theorem best_first {es : List Ent} (ho : ordB es es.length = true) (key : ByteArray) (seq : Int) : ∀ i, i ≤ es.length → (best es key seq i = -1 ∧ ∀ j, j < i → ¬ ((entAt es j).k = key ∧ (entAt es j).s ≤ seq)) ∨ ∃ j, j < i ∧ best es key seq i = (j : Int) ∧ ((entAt es j).k = key ∧ (entAt es j).s ≤ seq) ∧ ∀ j', j' < j → ¬ ((entAt es j').k = key ∧ (entAt es j').s ≤ seq)
  | 0, _ => .inl ⟨rfl, fun j h => absurd h (Nat.not_lt_zero _)⟩
  | i + 1, hi => by
    have hd : ∀ j, es.getD j Ent.zero = entAt es j := fun j => by rw [List.getD_eq_getElem?_getD]; rfl
    have e : best es key seq (i + 1) = if (entAt es i).k = key ∧ (entAt es i).s ≤ seq ∧ (best es key seq i < 0 ∨ (entAt es (best es key seq i).toNat).s < (entAt es i).s) then (i : Int) else best es key seq i := by
      show (if _ then _ else _) = _
      simp only [hd]
    rcases best_first ho key seq i (by omega) with ⟨h1, h2⟩ | ⟨j, h1, h2, h3, h4⟩
    · by_cases hp : (entAt es i).k = key ∧ (entAt es i).s ≤ seq
      · refine .inr ⟨i, by omega, ?_, hp, h2⟩
        rw [e, if_pos ⟨hp.1, hp.2, .inl (by rw [h1]; decide)⟩]
      · refine .inl ⟨?_, fun j hj => ?_⟩
        · rw [e, if_neg (fun h => hp ⟨h.1, h.2.1⟩)]
          exact h1
        · by_cases hji : j = i
          · rw [hji]; exact hp
          · exact h2 j (by omega)
    · refine .inr ⟨j, by omega, ?_, h3, h4⟩
      rw [e, if_neg (fun h => ?_)]
      · exact h2
      · rcases h.2.2 with h5 | h5
        · rw [h2] at h5; omega
        · rw [h2, Int.toNat_natCast] at h5
          have := ordB_seq ho h1 (by omega) (by rw [h3.1, h.1])
          omega
theorem best_find {es : List Ent} (ho : ordB es es.length = true) (key : ByteArray) (seq : Nat) : (0 ≤ best es key seq es.length → findT es key seq = some (entAt es (best es key seq es.length).toNat)) ∧ (¬ 0 ≤ best es key seq es.length → findT es key seq = none) := by
  rcases best_first ho key seq es.length (Nat.le_refl _) with ⟨h1, h2⟩ | ⟨j, h1, h2, h3, h4⟩
  · rw [h1]
    exact ⟨fun h => absurd h (by decide), fun _ => findT_no h2⟩
  · rw [h2, Int.toNat_natCast]
    exact ⟨fun _ => findT_at h1 h4 h3, fun h => absurd (Int.natCast_nonneg j) h⟩
/-- What is picked has the key. -/
theorem best_key (es : List Ent) (key : ByteArray) (seq : Int) : ∀ i, 0 ≤ best es key seq i → (entAt es (best es key seq i).toNat).k = key
  | 0, h => absurd (show (0 : Int) ≤ -1 from h) (by decide)
  | i + 1, h => by
    have hd : ∀ j, es.getD j Ent.zero = entAt es j := fun j => by rw [List.getD_eq_getElem?_getD]; rfl
    have e : best es key seq (i + 1) = if (entAt es i).k = key ∧ (entAt es i).s ≤ seq ∧ (best es key seq i < 0 ∨ (entAt es (best es key seq i).toNat).s < (entAt es i).s) then (i : Int) else best es key seq i := by
      show (if _ then _ else _) = _
      simp only [hd]
    rw [e] at h ⊢
    split at h
    · rename_i hp
      rw [if_pos hp, Int.toNat_natCast]
      exact hp.1
    · rename_i hp
      rw [if_neg hp]
      exact best_key es key seq i h
/-- Get of any blocks: what is told has the key, and no error. -/
theorem goG_key (key : ByteArray) (seq : Nat) : ∀ l : List Prt, ∀ x, (goG key seq l).2.2 = some x → x.k = key ∧ (goG key seq l).2.1 = 0
  | [], x, h => by cases h
  | p :: r, x, h => by
    rw [goG_cons] at h ⊢
    split
    · rename_i h1
      rw [if_pos h1] at h
      cases h
    · rename_i h1
      rw [if_neg h1] at h
      split
      · rename_i h2
        rw [if_pos h2] at h
        cases h
      · rename_i h2
        rw [if_neg h2] at h
        split
        · rename_i h3
          rw [if_pos h3] at h
          simp only [Option.some.injEq] at h
          subst h
          exact ⟨best_key _ _ _ _ h3, rfl⟩
        · rename_i h3
          rw [if_neg h3] at h
          exact goG_key key seq r x h
theorem goG_few (key : ByteArray) (seq : Nat) : ∀ l : List Prt, (goG key seq l).1 ≤ l.length
  | [] => Nat.le_refl _
  | p :: r => by
    have ih := goG_few key seq r
    rw [goG_cons]
    split
    · exact Nat.zero_le _
    · split
      · simp only [List.length_cons]; omega
      · split
        · simp only [List.length_cons]; omega
        · simp only [List.length_cons]; omega
theorem goR_few (lo hi : ByteArray) : ∀ l : List Prt, (goR lo hi l).1 ≤ l.length
  | [] => Nat.le_refl _
  | p :: r => by
    have ih := goR_few lo hi r
    rw [goR_cons]
    split
    · exact Nat.zero_le _
    · split
      · simp only [List.length_cons]; omega
      · simp only [List.length_cons]; omega
/-- Blocks of a table: each with its first key, and told as it was laid, or refused. -/
structure BlocksT (es : List Ent) (ps : List Prt) : Prop where
  len : ps.length = numT es
  key : ∀ i (h : i < ps.length), (ps[i]).f = keyT es (8 * i)
  blk : ∀ i (h : i < ps.length), getE (ps[i]).b.data.toList = (0, chunkT es i) ∨ (getE (ps[i]).b.data.toList).1 = 6
theorem dropT_step (es : List Ent) (k : Nat) : es.drop (8 * k) = chunkT es k ++ es.drop (8 * (k + 1)) := by
  unfold chunkT
  rw [show 8 * (k + 1) = 8 * k + 8 by omega, ← List.drop_drop, List.take_append_drop]
theorem dropT_end (es : List Ent) : es.drop (8 * numT es) = [] := List.drop_eq_nil_of_le (by unfold numT; omega)
theorem findT_append (a b : List Ent) (key : ByteArray) (seq : Nat) : findT (a ++ b) key seq = (findT a key seq).or (findT b key seq) := by
  unfold findT
  rw [List.find?_append]
/-- No version of those from one on has a key that lies below its own. -/
theorem findT_dropno {es : List Ent} (ho : ordB es es.length = true) {key : ByteArray} {seq k : Nat} (h : 8 * k < es.length → lessB key (keyT es (8 * k)) = true) : findT (es.drop (8 * k)) key seq = none := by
  unfold findT
  rw [List.find?_eq_none]
  intro x hx
  obtain ⟨i, hi, rfl⟩ := List.getElem_of_mem hx
  rw [List.length_drop] at hi
  have := keyT_up ho (show 8 * k ≤ 8 * k + i by omega) (show 8 * k + i < es.length by omega)
  simp only [decide_eq_true_eq, not_and]
  intro e
  rw [List.getElem_drop] at e
  unfold keyT at this h
  rw [entAt_get (show 8 * k + i < es.length by omega), e, h (by omega)] at this
  cases this
theorem goG_blocks {es : List Ent} (ho : ordB es es.length = true) {ps : List Prt} (hb : BlocksT es ps) (key : ByteArray) (seq : Nat) : ∀ n i, n + i = numT es → ((goG key seq (ps.drop i)).2.1 = 0 ∧ (goG key seq (ps.drop i)).2.2 = findT (es.drop (8 * i)) key seq) ∨ ((goG key seq (ps.drop i)).2.1 = 6 ∧ (goG key seq (ps.drop i)).2.2 = none)
  | 0, i, h => by
    have : ps.drop i = [] := List.drop_eq_nil_of_le (by rw [hb.len]; omega)
    rw [this, show i = numT es by omega, dropT_end]
    exact .inl ⟨rfl, rfl⟩
  | n + 1, i, h => by
    have hi : i < ps.length := by rw [hb.len]; omega
    have ih := goG_blocks ho hb key seq n (i + 1) (by omega)
    rw [drop_cons' hi, goG_cons, hb.key i hi]
    split
    · rename_i h1
      refine .inl ⟨rfl, (findT_dropno ho (fun _ => h1)).symm⟩
    · rcases hb.blk i hi with hg | hg
      · rw [hg, if_neg (by simp)]
        simp only
        have hbf := best_find (chunkT_ord ho i) key seq
        rw [dropT_step, findT_append]
        split
        · rename_i h2
          rw [hbf.1 h2]
          exact .inl ⟨rfl, rfl⟩
        · rename_i h2
          rw [hbf.2 h2]
          simp only [Option.none_or]
          exact ih
      · rw [if_pos (by rw [hg]; decide)]
        exact .inr ⟨hg, rfl⟩
theorem lessB_asym {a b : ByteArray} (h : lessB a b = true) : lessB b a = false := by
  unfold lessB at *
  rw [decide_eq_true_eq] at h
  rw [decide_eq_false_iff_not, cb_swap, h]
  decide
theorem lessB_trans {a b c : ByteArray} (h1 : lessB a b = true) (h2 : lessB b c = true) : lessB a c = true := by
  unfold lessB at *
  rw [decide_eq_true_eq] at *
  exact cb_trans _ _ _ h1 h2
theorem rangeE_app (lo hi : ByteArray) (a b : List Ent) : rangeE lo hi (a ++ b) = rangeE lo hi a ++ rangeE lo hi b := by
  unfold rangeE
  rw [List.filter_append]
theorem withinB_max (lo hi f : ByteArray) : withinB lo hi (maxB lo f) = (hi.toList.isEmpty || (lessB lo hi && lessB f hi)) := by
  unfold withinB maxB
  cases h : lessB lo f with
  | true =>
    rw [if_pos rfl]
    have h1 : lessB f lo = false := lessB_asym h
    rw [h1]
    cases h4 : lessB f hi with
    | true =>
      have : lessB lo hi = true := lessB_trans h h4
      rw [this]; simp
    | false => simp
  | false =>
    rw [if_neg (by simp), lessB_self]
    cases h4 : lessB lo hi with
    | true =>
      have : lessB f hi = true := lessB_back h h4
      rw [this]; simp
    | false => simp
/-- All that stand from a block on lie beyond the range. -/
theorem rangeT_dropno {es : List Ent} (ho : ordB es es.length = true) {lo hi : ByteArray} {k : Nat} (h : 8 * k < es.length → withinB lo hi (maxB lo (keyT es (8 * k))) = false) : rangeE lo hi (es.drop (8 * k)) = [] := by
  unfold rangeE
  rw [List.filter_eq_nil_iff]
  intro x hx
  obtain ⟨i, hi', rfl⟩ := List.getElem_of_mem hx
  rw [List.length_drop] at hi'
  have h1 := h (by omega)
  rw [withinB_max, Bool.or_eq_false_iff] at h1
  have h2 := keyT_up ho (show 8 * k ≤ 8 * k + i by omega) (show 8 * k + i < es.length by omega)
  have e : (es.drop (8 * k))[i].k = keyT es (8 * k + i) := by
    unfold keyT
    rw [entAt_get (show 8 * k + i < es.length by omega), List.getElem_drop]
  unfold inRange
  rw [e, h1.1, Bool.false_or]
  intro hc
  rw [Bool.and_eq_true] at hc
  have h3 : lessB (keyT es (8 * k)) hi = true := lessB_back h2 hc.2
  have h4 : lessB lo hi = true := lessB_back (by simpa using hc.1) hc.2
  rw [h3, h4] at h1
  cases h1.2
theorem rangeT_takeno {es : List Ent} {lo hi : ByteArray} {k : Nat} (h : ∀ i, i < 8 * k → i < es.length → lessB (keyT es i) lo = true) : rangeE lo hi (es.take (8 * k)) = [] := by
  unfold rangeE
  rw [List.filter_eq_nil_iff]
  intro x hx
  obtain ⟨i, hi', rfl⟩ := List.getElem_of_mem hx
  rw [List.length_take] at hi'
  have h1 := h i (by omega) (by omega)
  have e : (es.take (8 * k))[i].k = keyT es i := by
    unfold keyT
    rw [entAt_get (show i < es.length by omega), List.getElem_take]
  unfold inRange
  rw [e, h1]
  simp
theorem goR_blocks {es : List Ent} (ho : ordB es es.length = true) {ps : List Prt} (hb : BlocksT es ps) (lo hi : ByteArray) : ∀ n i, n + i = numT es → ((goR lo hi (ps.drop i)).2.1 = 0 ∧ (goR lo hi (ps.drop i)).2.2 = rangeE lo hi (es.drop (8 * i))) ∨ ((goR lo hi (ps.drop i)).2.1 = 6)
  | 0, i, h => by
    have : ps.drop i = [] := List.drop_eq_nil_of_le (by rw [hb.len]; omega)
    rw [this, show i = numT es by omega, dropT_end]
    exact .inl ⟨rfl, rfl⟩
  | n + 1, i, h => by
    have hip : i < ps.length := by rw [hb.len]; omega
    have ih := goR_blocks ho hb lo hi n (i + 1) (by omega)
    rw [drop_cons' hip, goR_cons, hb.key i hip]
    split
    · rename_i h1
      exact .inl ⟨rfl, (rangeT_dropno ho (fun _ => h1)).symm⟩
    · rcases hb.blk i hip with hg | hg
      · rw [hg, if_neg (by simp)]
        simp only
        rcases ih with ⟨h2, h3⟩ | h2
        · rw [h2, if_neg (by simp), h3]
          refine .inl ⟨rfl, ?_⟩
          rw [dropT_step es i, rangeE_app]
        · exact .inr h2
      · rw [if_pos (by rw [hg]; decide)]
        exact .inr hg
/-- From a block on whose keys are not below no more are read than may have keys of the range. -/
theorem goR_most {es : List Ent} (ho : ordB es es.length = true) {ps : List Prt} (hb : BlocksT es ps) (lo hi : ByteArray) : ∀ n i, n + i = numT es → (∀ j, 8 * i ≤ j → j < es.length → lessB (keyT es j) lo = false) → (goR lo hi (ps.drop i)).1 + mostT es lo hi i ≤ mostT es lo hi (numT es)
  | 0, i, h, _ => by
    have : ps.drop i = [] := List.drop_eq_nil_of_le (by rw [hb.len]; omega)
    rw [this, show i = numT es by omega]
    show 0 + _ ≤ _
    omega
  | n + 1, i, h, hlo => by
    have hi' : i < ps.length := by rw [hb.len]; omega
    have ih := goR_most ho hb lo hi n (i + 1) (by omega) (fun j h1 h2 => hlo j (by omega) h2)
    have hm : ∀ k m, k ≤ m → mostT es lo hi k ≤ mostT es lo hi m := fun k m hkm => by
      induction m with
      | zero => rw [show k = 0 by omega]; exact Nat.le_refl _
      | succ m ihm =>
        by_cases e : k = m + 1
        · rw [e]; exact Nat.le_refl _
        · have := ihm (by omega)
          show _ ≤ mostT es lo hi m + _
          omega
    have h8 : 8 * i < es.length := by have := hb.len; unfold numT at *; omega
    rw [drop_cons' hi', goR_cons, hb.key i hi']
    split
    · simp only [Nat.zero_add]
      exact hm _ _ (by omega)
    · rename_i h1
      have hw : withinB lo hi (maxB lo (keyT es (8 * i))) = true := by
        cases hq : withinB lo hi (maxB lo (keyT es (8 * i))) with
        | true => rfl
        | false => exact absurd hq h1
      rw [withinB_max] at hw
      have hstep : mostT es lo hi (i + 1) = mostT es lo hi i + 1 := by
        show mostT es lo hi i + (if _ then 1 else 0) = _
        rw [if_pos]
        rw [hlo (min (8 * i + 7) (es.length - 1)) (by omega) (by omega)]
        cases he : hi.toList.isEmpty with
        | true => rfl
        | false =>
          rw [he, Bool.false_or, Bool.and_eq_true] at hw
          rw [hw.2]; rfl
      have hle := hm (i + 1) (numT es) (by omega)
      split
      · simp only; omega
      · simp only
        omega
end Go.Proofs.YtmnboiikopkaoaaGreat

namespace Go.Proofs.YtmnboiikopkaoaaGreat
open Go.RowKit

theorem opn_seal (s : List UInt8) : opn (sealF s) = (0, s) := by
  have hl : (sealF s).length = s.length + 4 := by unfold sealF; rw [List.length_append, be_length]
  have h1 : (sealF s).take s.length = s := by unfold sealF; exact List.take_left
  have h2 : (sealF s).drop s.length = be (crc s) 4 := by unfold sealF; exact List.drop_left
  unfold opn
  rw [hl, if_neg (by omega), Nat.add_sub_cancel, h1, h2, if_pos (beVal_be 4 _ (crc_lt _)).symm]
theorem laid_fit {c len : Nat} (h1 : c ≤ len) (h2 : c ≤ 150) : fitsB (szB 10 c) len = true := by
  unfold fitsB szB
  rw [decide_eq_true_eq]
  by_cases hc : 10 * c ≤ 64
  · have e1 : max (10 * c) 64 = 64 := by omega
    rw [e1]
    have e2 : min (min len ((64 + 7) / 8 * 8 / 10)) 104857 ≤ 6 := by omega
    omega
  · have e1 : max (10 * c) 64 = 10 * c := by omega
    rw [e1]
    have e2 : (10 * c + 7) / 8 * 8 / 10 = c := by omega
    rw [e2]
    have e3 : min (min len c) 104857 = c := by omega
    rw [e3]
    omega
/-- The parts that an index tells, of blocks' bytes B. -/
def partT (es : List Ent) (B : List UInt8) (k : Nat) : Prt := ⟨keyT es (8 * k), ⟨((B.drop (blksT es k).length).take (blkB (chunkT es k)).length).toArray⟩⟩
def partsT (es : List Ent) (B : List UInt8) : Nat → List Prt
  | 0 => []
  | k + 1 => partsT es B k ++ [partT es B k]
theorem partsT_len (es : List Ent) (B : List UInt8) : ∀ k, (partsT es B k).length = k
  | 0 => rfl
  | k + 1 => by
    show (partsT es B k ++ _).length = _
    rw [List.length_append, partsT_len es B k]
    rfl
theorem partsT_get (es : List Ent) (B : List UInt8) : ∀ k i, i < k → (partsT es B k)[i]? = some (partT es B i)
  | 0, i, h => absurd h (Nat.not_lt_zero _)
  | k + 1, i, h => by
    show (partsT es B k ++ [partT es B k])[i]? = _
    by_cases e : i < k
    · rw [List.getElem?_append_left (by rw [partsT_len]; exact e)]
      exact partsT_get es B k i e
    · rw [show i = k by omega, List.getElem?_append_right (by rw [partsT_len]; exact Nat.le_refl _), partsT_len, Nat.sub_self]
      rfl
theorem partsT_at (es : List Ent) (B : List UInt8) {k i : Nat} (h : i < (partsT es B k).length) : (partsT es B k)[i] = partT es B i := by
  have h1 := partsT_get es B k i (by rw [partsT_len] at h; exact h)
  rw [List.getElem?_eq_getElem h] at h1
  exact Option.some.inj h1
theorem keyP_parts (es : List Ent) (B : List UInt8) {k i : Nat} (h : i < k) : keyP (partsT es B k) i = keyT es (8 * i) := by
  unfold keyP
  rw [partsT_get es B k i h]
  rfl
theorem whole_parts {es : List Ent} (h : FineT es) (B : List UInt8) : wholeB (partsT es B (numT es)) (keyT es (es.length - 1)) es.length = true := by
  have hpos : 0 < es.length := List.length_pos_iff.2 h.some'
  have hn : 0 < numT es := by unfold numT; omega
  rw [wholeB_eq _ _ _ (fun e => by have := congrArg List.length e; rw [partsT_len] at this; simp at this; omega), partsT_len, keyP_parts es B (show numT es - 1 < numT es by omega)]
  have e1 : decide ((es.length + 7) / 8 = numT es) = true := decide_eq_true rfl
  have h8 : 8 * (numT es - 1) ≤ es.length - 1 := by unfold numT; omega
  have e2 := keyT_up h.ord h8 (show es.length - 1 < es.length by omega)
  have e3 : (decide (es.length % 8 = 1) && !((keyT es (es.length - 1)).toList == (keyT es (8 * (numT es - 1))).toList)) = false := by
    by_cases hq : es.length % 8 = 1
    · have : 8 * (numT es - 1) = es.length - 1 := by unfold numT; omega
      rw [this]; simp
    · rw [decide_eq_false hq]; rfl
  have e4 : upP (partsT es B (numT es)) = true := by
    rw [upP_iff]
    intro i hi
    rw [partsT_len] at hi
    rw [keyP_parts es B hi, keyP_parts es B (show i < numT es by omega)]
    exact keyT_up h.ord (by omega) (by unfold numT at hi; omega)
  rw [e1, e2, e3, e4]
  rfl
/-- The rows of an index, read. -/
theorem itI_laid {es : List Ent} (h : FineT es) (Bx : ByteArray) (hB : Bx.size = (blksT es (numT es)).length) : ∀ k, k ≤ numT es → itI Bx (restT es 0) k = some (partsT es Bx.data.toList k, (blksT es k).length, restT es k)
  | 0, _ => rfl
  | k + 1, hk => by
    have hn : numT es ≤ 19 := by have := h.few; unfold numT; omega
    have h8 : 8 * k < es.length := by unfold numT at hk; omega
    have hkey := (valid_parts (ordB_at h.ord h8).1).1
    have hb1 := blksT_size es h.short h.ok k
    have hb2 := chunkT_size es h.short h.ok k
    have hm := blksT_mono es hk
    rw [blksT_len_succ] at hm
    show (itI Bx (restT es 0) k).bind (stepI Bx) = _
    rw [itI_laid h Bx hB k (by omega)]
    show stepI Bx (partsT es Bx.data.toList k, (blksT es k).length, restT es k) = _
    have hp : rdPart Bx.size (blksT es k).length (restT es k) = some ((keyT es (8 * k)).data.toList, (blkB (chunkT es k)).length, restT es (k + 1)) := by
      unfold rdPart
      rw [restT_step es (show k < numT es by omega), rdT_laid 300 _ _ (by unfold keyT; omega) (by unfold keyT; omega)]
      simp only
      rw [rdC_laid _ _ _ (by omega) (by omega)]
      simp only
      rw [rdC_laid _ _ _ (by omega) (by omega)]
      simp
    unfold stepI
    simp only [hp]
    rw [blksT_len_succ]
    congr 2
    show _ = partsT es Bx.data.toList k ++ [partT es Bx.data.toList k]
    congr 2
    unfold partT
    congr 1
    apply bytes_ext
    rw [ext_mid]
theorem rdIdx_laid {es : List Ent} (h : FineT es) (Bx idx : ByteArray) (hB : Bx.size = (blksT es (numT es)).length) (hi : idx.data.toList = Lib.uvarint (numT es) ++ restT es 0) : rdIdx idx Bx = some (partsT es Bx.data.toList (numT es), keyT es (es.length - 1), es.length) := by
  have hn : numT es ≤ 19 := by have := h.few; unfold numT; omega
  have hpos : 0 < es.length := List.length_pos_iff.2 h.some'
  have hlen : numT es ≤ idx.size := by
    have h1 := itI_some (itI_laid h Bx hB (numT es) (Nat.le_refl _))
    have h2 : idx.size = (Lib.uvarint (numT es) ++ restT es 0).length := by rw [← len_data', hi]
    rw [List.length_append] at h2
    omega
  have hC : rdC (idx.size : Int) idx.data.toList 0 = (numT es, restT es 0, 0) := by
    rw [hi]
    exact rdC_laid _ _ _ (by omega) (by omega)
  have hkey := (valid_parts (ordB_at h.ord (show es.length - 1 < es.length by omega)).1).1
  unfold rdIdx
  rw [hC]
  simp only
  rw [itI_laid h Bx hB (numT es) (Nat.le_refl _)]
  show endI Bx.size 0 (partsT es Bx.data.toList (numT es), (blksT es (numT es)).length, restT es (numT es)) = _
  unfold endI
  simp only
  rw [partsT_len, restT_end]
  unfold tailT
  rw [rdC_laid _ _ _ (by have := h.few; unfold numT; omega) (by have := h.few; omega)]
  simp only
  rw [show textT (keyT es (es.length - 1)) = textT (keyT es (es.length - 1)) ++ [] from (List.append_nil _).symm, rdT_laid 300 _ _ (by unfold keyT; omega) (by unfold keyT; omega)]
  simp only
  have e : (⟨(keyT es (es.length - 1)).data.toList.toArray⟩ : ByteArray) = keyT es (es.length - 1) := (arr_eq _).symm
  rw [e, if_pos ⟨by simp, hB.symm, whole_parts h _⟩]
/-- What Open tells of a table whose blocks' bytes are B. -/
theorem openT_laid {es : List Ent} (h : FineT es) (Z : ByteArray) (B : List UInt8) (hB : B.length = (blksT es (numT es)).length) (hZ : Z.data.toList = B ++ filT es ++ indT es ++ sealF (footT es)) :
    openT Z = (0, some ⟨partsT es B (numT es), keyT es (es.length - 1), es.length, ⟨(mkB 10 4 (keysT es es.length)).toArray⟩, 0⟩) := by
  have hfew := tabB_few h
  have htl := tabB_len es
  have hft : (footT es).length = 24 := (footT_parts es).1
  have hsl : (sealF (footT es)).length = 28 := by unfold sealF; rw [List.length_append, be_length, hft]
  have hZl : Z.data.toList.length = B.length + (filT es).length + (indT es).length + 28 := by rw [hZ]; simp only [List.length_append]; omega
  have hd28 : Z.data.toList.drop (Z.data.toList.length - 28) = sealF (footT es) := by
    rw [hZl, Nat.add_sub_cancel, hZ, show B.length + (filT es).length + (indT es).length = (B ++ filT es ++ indT es).length by simp only [List.length_append]]
    exact List.drop_left
  have ht24 : (sealF (footT es)).take 24 = footT es := by unfold sealF; rw [← hft]; exact List.take_left
  have hdr24 : (sealF (footT es)).drop 24 = be (crc (footT es)) 4 := by unfold sealF; rw [← hft]; exact List.drop_left
  have hp6 : (256 : Nat) ^ 6 = 281474976710656 := by decide
  have hf4 : foot4 (footT es) = (B.length, (filT es).length, B.length + (filT es).length, (indT es).length) := by
    obtain ⟨-, h1, h2, h3, h4⟩ := footT_parts es
    unfold foot4
    rw [h1, h2, h3, h4, beVal_be 6 _ (by omega), beVal_be 6 _ (by omega), beVal_be 6 _ (by omega), beVal_be 6 _ (by omega), hB]
  have hfoot : rdFoot Z.data.toList = (0, B.length, (filT es).length, B.length + (filT es).length, (indT es).length) := by
    unfold rdFoot
    rw [if_neg (by omega), hd28, ht24, hdr24, if_neg (by rw [beVal_be 4 _ (crc_lt _)]; simp), hf4]
    simp only
    rw [if_neg (fun hq => hq.elim (fun hq => hq rfl) (fun hq => hq (by omega)))]
  have hfil : (Z.data.toList.drop B.length).take (filT es).length = filT es := by
    rw [hZ, List.append_assoc, List.append_assoc, List.drop_left, List.take_left]
  have hind : (Z.data.toList.drop (B.length + (filT es).length)).take (indT es).length = indT es := by
    rw [hZ, show B.length + (filT es).length = (B ++ filT es).length by rw [List.length_append], List.append_assoc, List.drop_left, List.take_left]
  have hblk : (Z.extract 0 B.length).data.toList = B := by
    rw [ext_to, hZ, List.append_assoc, List.append_assoc, List.take_left]
  have hbs : (Z.extract 0 B.length).size = (blksT es (numT es)).length := by rw [← len_data', hblk, hB]
  have hfl : isFilB (mkB 10 4 (keysT es es.length)) = true := by
    unfold isFilB
    rw [mkB_valid 10 4 _ (by omega) (by omega), mkB_last 10 4 _ (by omega)]
    rfl
  unfold openT
  simp only [hfoot, hfil, hind]
  rw [if_neg (by simp)]
  have hof : opn (filT es) = (0, mkB 10 4 (keysT es es.length)) := by unfold filT; exact opn_seal _
  have hoi : opn (indT es) = (0, Lib.uvarint (numT es) ++ restT es 0) := by rw [indT_eq]; exact opn_seal _
  rw [hof, hoi]
  simp only
  rw [if_neg (by simp), hfl, if_neg (by simp), if_neg (by simp), rdIdx_laid h (Z.extract 0 B.length) ⟨(Lib.uvarint (numT es) ++ restT es 0).toArray⟩ hbs rfl, hblk]
  simp only
  have hkn := keysT_len es es.length
  have := h.few
  rw [mkB_len, Nat.add_sub_cancel, laid_fit hkn (by omega), if_neg (by simp)]
end Go.Proofs.YtmnboiikopkaoaaGreat

namespace Go.Proofs.YtmnboiikopkaoaaGreat
open Go.RowKit

section
variable {w : World} {p : Nat} {F : List Nat} {q : Rdb}
set_option maxHeartbeats 2000000 in
set_option maxRecDepth 100000 in
theorem rends_any (h : RdAt w p F q) (h0 : q.ps ≠ []) (hk : (keyP q.ps 0).size ≤ 1000000) (hl : q.last.size ≤ 1000000) :
    Calls Tryz.prog 14 #[.pointer (some ⟨p, 0, none⟩)] w fun e w' => e = .returned (.tuple #[.string (keyP q.ps 0), .string q.last]) ∧ Below w.heap.size w w' := by
  have C1 := Lib.hid (isNone_no h h0)
  have hpos : 0 < q.ps.length := List.length_pos_iff.2 h0
  have hp := h.plt
  obtain ⟨a, cap, c0, hc⟩ := h.parts
  obtain ⟨V, -, c1, -⟩ := h.cells
  obtain ⟨g, rfl, hg, d0, -⟩ := hc 0 hpos
  rw [Nat.zero_mul, ← keyP_get hpos] at d0
  have hpI : (0 : Int) < (q.ps.length : Int) := by omega
  have K1 := Lib.hid (fun W => clone_any (keyP q.ps 0) W (by omega))
  have K2 := Lib.hid (fun W => clone_any q.last W (by omega))
  have HQ := Lib.hid (show ∀ W, Below w.heap.size w W → W.cell? ⟨p, 0, none⟩ = some (.slice (some ⟨g, 0, none⟩) q.ps.length cap) ∧ W.cell? ⟨p, 1, none⟩ = some (.string q.last) ∧ W.cell? ⟨g, 0, none⟩ = some (.string (keyP q.ps 0)) from fun W hb => ⟨(hb.cell (p := ⟨p, 0, none⟩) hp).trans c0, (hb.cell (p := ⟨p, 1, none⟩) hp).trans c1, (hb.cell (p := ⟨g, 0, none⟩) hg).trans d0⟩)
  generalize keyP q.ps 0 = A at *
  clear h h0 hc
  generalize q.ps.length = N at *
  generalize q.last = B at *
  go_enter Tryz.func14, Tryz.ntmps14
  go_wp2_with (go_at_call 31; (with_reducible refine C1.out.mono ?_); rintro _ w1 ⟨rfl, rfl⟩)
  go_region_held3 (fun W => W.cell? ⟨p, 0, none⟩ = some (.slice (some ⟨g, 0, none⟩) N cap) ∧ W.cell? ⟨p, 1, none⟩ = some (.string B) ∧ W.cell? ⟨g, 0, none⟩ = some (.string A)) (first | go_keep | exact HQ.out _ BB | exact HQ.out _ BA | exact HQ.out _ (Below.refl _ _).drew | fail) (first | (go_at_call 25; (with_reducible refine (K1.out _).mono ?_); rintro _ wa ⟨rfl, ba⟩; have BA : Below w.heap.size w wa := (by first | exact (Below.refl _ _).drew.trans ba | exact BB.trans (ba.mono BB.size))) | (go_at_call 25; (with_reducible refine (K2.out _).mono ?_); rintro _ wb ⟨rfl, bb⟩; have BB : Below w.heap.size w wb := (by first | exact (Below.refl _ _).drew.trans bb | exact BA.trans (bb.mono BA.size))) | fail)
  all_goals go_wp2_with fail
  all_goals go_ret2
  all_goals first
    | exact ⟨rfl, BB⟩
    | exact ⟨rfl, BA⟩
end
/-- A reader of a table that was laid. -/
def rdbT (es : List Ent) (n : Nat) : Rdb := ⟨partsT es (blksT es (numT es)) (numT es), keyT es (es.length - 1), es.length, ⟨(mkB 10 4 (keysT es es.length)).toArray⟩, n⟩
structure TblP (w : World) (p : Nat) (F : List Nat) (es : List Ent) (n : Nat) : Prop where
  fine : FineT es
  rd : RdAt w p F (rdbT es n)
theorem goG_bad (key : ByteArray) (seq : Nat) : ∀ l : List Prt, (goG key seq l).2.1 ≠ 0 → ∃ x ∈ l, (getE x.b.data.toList).1 ≠ 0
  | [], h => absurd rfl h
  | x :: r, h => by
    by_cases hx : (getE x.b.data.toList).1 = 0
    · have hr : (goG key seq r).2.1 ≠ 0 := by
        intro h0
        apply h
        rw [goG_cons]
        split
        · rfl
        · rw [if_neg (by rw [hx]; simp)]
          split
          · rfl
          · exact h0
      obtain ⟨y, hy, h2⟩ := goG_bad key seq r hr
      exact ⟨y, List.mem_cons_of_mem _ hy, h2⟩
    · exact ⟨x, by simp, hx⟩
theorem goR_bad (lo hi : ByteArray) : ∀ l : List Prt, (goR lo hi l).2.1 ≠ 0 → ∃ x ∈ l, (getE x.b.data.toList).1 ≠ 0
  | [], h => absurd rfl h
  | x :: r, h => by
    by_cases hx : (getE x.b.data.toList).1 = 0
    · have hr : (goR lo hi r).2.1 ≠ 0 := by
        intro h0
        apply h
        rw [goR_cons]
        split
        · rfl
        · rw [if_neg (by rw [hx]; simp)]
          exact h0
      obtain ⟨y, hy, h2⟩ := goR_bad lo hi r hr
      exact ⟨y, List.mem_cons_of_mem _ hy, h2⟩
    · exact ⟨x, by simp, hx⟩
/-- A block's bytes among those of all. -/
theorem blksT_at (es : List Ent) {k n : Nat} (h : k < n) : ((blksT es n).drop (blksT es k).length).take (blkB (chunkT es k)).length = blkB (chunkT es k) := by
  obtain ⟨r, hr⟩ := blksT_pre es (k + 1) n (by omega)
  rw [hr]
  show ((blksT es k ++ blkB (chunkT es k) ++ r).drop _).take _ = _
  exact piece_mid _ _ _
theorem chunk_laid {es : List Ent} (h : FineT es) (k : Nat) : getE (blkB (chunkT es k)) = (0, chunkT es k) :=
  getE_laid _ (by rw [chunkT_len]; omega) (chunkT_ord h.ord k) (fun x hx => by
    have := h.ok x (chunkT_mem hx)
    unfold Ent.Ok at this
    omega)
theorem blocks_laid {es : List Ent} (h : FineT es) : ∀ i (hi : i < (partsT es (blksT es (numT es)) (numT es)).length), getE ((partsT es (blksT es (numT es)) (numT es))[i]).b.data.toList = (0, chunkT es i) := by
  intro i hi
  rw [partsT_at es _ hi]
  rw [partsT_len] at hi
  show getE (((blksT es (numT es)).drop (blksT es i).length).take (blkB (chunkT es i)).length) = _
  rw [blksT_at es hi, chunk_laid h]
theorem tblocks {es : List Ent} (h : FineT es) : BlocksT es (partsT es (blksT es (numT es)) (numT es)) :=
  ⟨partsT_len _ _ _, fun i hi => by rw [partsT_at es _ hi]; rfl, fun i hi => .inl (blocks_laid h i hi)⟩
theorem numT_le {es : List Ent} (h : FineT es) : numT es ≤ 19 ∧ 0 < numT es ∧ 0 < es.length := by
  have hpos : 0 < es.length := List.length_pos_iff.2 h.some'
  have := h.few
  unfold numT
  omega
theorem parts_ne {es : List Ent} (h : FineT es) (B : List UInt8) : partsT es B (numT es) ≠ [] := fun e => by
  have h1 := congrArg List.length e
  rw [partsT_len] at h1
  have := (numT_le h).2.1
  simp at h1
  omega
theorem parts_small {es : List Ent} (B : List UInt8) (hB : B.length ≤ 100000) : ∀ x ∈ partsT es B (numT es), x.b.size ≤ 100000 := by
  intro x hx
  obtain ⟨i, hi, rfl⟩ := List.getElem_of_mem hx
  rw [partsT_at es _ hi]
  show (⟨((B.drop (blksT es i).length).take (blkB (chunkT es i)).length).toArray⟩ : ByteArray).size ≤ _
  rw [← len_data']
  show ((B.drop (blksT es i).length).take (blkB (chunkT es i)).length).length ≤ _
  rw [List.length_take, List.length_drop]
  omega
theorem blks_few {es : List Ent} (h : FineT es) : (blksT es (numT es)).length ≤ 100000 := by
  have h1 := tabB_few h
  rw [tabB_len] at h1
  omega
theorem filT_small {es : List Ent} (h : FineT es) : (⟨(mkB 10 4 (keysT es es.length)).toArray⟩ : ByteArray).size ≤ 1000000 := by
  rw [← len_data']
  show (mkB 10 4 (keysT es es.length)).length ≤ _
  rw [mkB_len]
  have h1 := keysT_len es es.length
  have := h.few
  unfold szB
  omega
/-- The greatest key that a block may have. -/
theorem mostK_laid {es : List Ent} (B : List UInt8) (last : ByteArray) (cnt : Nat) (fil : ByteArray) (n i : Nat) : mostK ⟨partsT es B (numT es), last, cnt, fil, n⟩ i = if i + 1 < numT es then keyT es (8 * (i + 1)) else last := by
  unfold mostK
  simp only
  by_cases h : i + 1 < numT es
  · rw [partsT_get es B _ _ h, if_pos h]; rfl
  · rw [List.getElem?_eq_none (by rw [partsT_len]; omega), if_neg h]
/-- What Starts says of a table: all ahead lie below. -/
theorem starts_low {es : List Ent} (h : FineT es) {B : List UInt8} {cnt : Nat} {fil : ByteArray} {n k : Nat} {key : ByteArray} (hs : Starts ⟨partsT es B (numT es), keyT es (es.length - 1), cnt, fil, n⟩ key k) : k ≤ numT es ∧ ∀ i, i < 8 * k → i < es.length → lessB (keyT es i) key = true := by
  obtain ⟨h1, h2, h3⟩ := hs
  simp only [partsT_len] at h1 h2
  refine ⟨h1, fun i hi hl => ?_⟩
  have h4 := h3 (by omega)
  rw [mostK_laid, show k - 1 + 1 = k by omega] at h4
  by_cases hk : k < numT es
  · rw [if_pos hk] at h4
    exact lessB_back (keyT_up h.ord (show i ≤ 8 * k by omega) (by unfold numT at hk; omega)) h4
  · rw [if_neg hk] at h4
    exact lessB_back (keyT_up h.ord (show i ≤ es.length - 1 by omega) (by omega)) h4
theorem starts_high {es : List Ent} (h : FineT es) {B : List UInt8} {cnt : Nat} {fil : ByteArray} {n k : Nat} {key : ByteArray} (hs : Starts ⟨partsT es B (numT es), keyT es (es.length - 1), cnt, fil, n⟩ key k) (hk : k < numT es) : (∀ j, 8 * (k + 1) ≤ j → j < es.length → lessB (keyT es j) key = false) ∧ lessB (keyT es (es.length - 1)) key = false := by
  have h2 := hs.2.1 (by simp only [partsT_len]; exact hk)
  rw [mostK_laid] at h2
  by_cases hk1 : k + 1 < numT es
  · rw [if_pos hk1] at h2
    have h8 : 8 * (k + 1) < es.length := by unfold numT at hk1; omega
    exact ⟨fun j h1 hl => lessB_no (keyT_up h.ord h1 hl) h2, lessB_no (keyT_up h.ord (show 8 * (k + 1) ≤ es.length - 1 by omega) (by omega)) h2⟩
  · rw [if_neg hk1] at h2
    exact ⟨fun j h1 hl => by unfold numT at hk1; omega, h2⟩
theorem find_low {es : List Ent} {key : ByteArray} {seq k : Nat} (h : ∀ i, i < 8 * k → i < es.length → lessB (keyT es i) key = true) : findT es key seq = findT (es.drop (8 * k)) key seq := by
  conv => lhs; rw [← List.take_append_drop (8 * k) es]
  rw [findT_append]
  have : findT (es.take (8 * k)) key seq = none := by
    unfold findT
    rw [List.find?_eq_none]
    intro x hx
    obtain ⟨i, hi', rfl⟩ := List.getElem_of_mem hx
    rw [List.length_take] at hi'
    have h1 := h i (by omega) (by omega)
    simp only [decide_eq_true_eq, not_and]
    intro e
    unfold keyT at h1
    rw [entAt_get (show i < es.length by omega)] at h1
    rw [List.getElem_take] at e
    rw [e, lessB_self] at h1
    cases h1
  rw [this]
  rfl
theorem range_low {es : List Ent} {lo hi : ByteArray} {k : Nat} (h : ∀ i, i < 8 * k → i < es.length → lessB (keyT es i) lo = true) : rangeE lo hi es = rangeE lo hi (es.drop (8 * k)) := by
  conv => lhs; rw [← List.take_append_drop (8 * k) es]
  rw [rangeE_app, rangeT_takeno h, List.nil_append]
/-- A key beyond the ends costs no block. -/
theorem goG_out {es : List Ent} (h : FineT es) {ps : List Prt} (hb : BlocksT es ps) {key : ByteArray} {seq k : Nat} (ho : outT es key = true) (hk : k ≤ numT es) (h1 : ∀ i, i < 8 * k → i < es.length → lessB (keyT es i) key = true) (h2 : k < numT es → lessB (keyT es (es.length - 1)) key = false) : (goG key seq (ps.drop k)).1 = 0 := by
  obtain ⟨-, hn, hpos⟩ := numT_le h
  unfold outT at ho
  rw [Bool.or_eq_true] at ho
  by_cases hkn : k = numT es
  · rw [List.drop_eq_nil_of_le (by rw [hb.len]; omega)]
    rfl
  · rcases ho with ho | ho
    · by_cases hk0 : k = 0
      · subst hk0
        have hi : 0 < ps.length := by rw [hb.len]; omega
        rw [drop_cons' hi, goG_cons, hb.key 0 hi, if_pos ho]
      · have := h1 0 (by omega) hpos
        rw [lessB_asym this] at ho
        cases ho
    · rw [h2 (by omega)] at ho
      cases ho
theorem tabC : TabC TblP where
  lt := fun h => h.rd.lt
  kept := fun h hk => ⟨h.fine, h.rd.kept hk⟩
  put := fun a len cap es hE hl hcap hok hsz => tput_any a len cap es hE hl hcap hok hsz
  opens := fun es Z w hF hZ => by
    have hsz : Z.size ≤ 1000000 := by
      have := tabB_few hF
      rw [← len_data', hZ]
      omega
    refine (topen_any Z w hsz).mono ?_
    rintro e w' ⟨hb, -, hy⟩
    have ho := openT_laid hF Z (blksT es (numT es)) rfl (by rw [hZ]; rfl)
    obtain ⟨p, F, rfl, hr, hl⟩ := hy _ _ ho
    exact ⟨p, F, rfl, ⟨hF, hr⟩, hl, hb⟩
  get := fun {w p F es n} key seq h hn hk hs => by
    have hF := h.fine
    obtain ⟨hn1, hn2, hpos⟩ := numT_le hF
    have hbl := tblocks hF
    have hlt := h.rd.plt
    refine (rget_any h.rd (parts_ne hF _) (by show (partsT es _ (numT es)).length ≤ _; rw [partsT_len]; omega) (parts_small _ (blks_few hF)) (filT_small hF) (by show n ≤ _; omega) key (by omega) seq).mono ?_
    rintro e w' (⟨hm, rfl, hr, ht⟩ | ⟨hm, k, hst, rfl, hr, ht⟩)
    · have hnf : findT es key seq = none := findT_key (fun hin => by
        have := mayB_in (bits := 10) (p := 4) (by omega) (by omega) hin
        have hm2 : mayB (mkB 10 4 (keysT es es.length)) key.data.toList = false := hm
        rw [this] at hm2
        cases hm2)
      rw [hnf]
      exact ⟨F, n, rfl, ⟨hF, hr⟩, Nat.le_refl _, by omega, fun _ => rfl, ht.mono (fun x hx => by simp at hx; subst hx; exact .inl h.rd.mem), fun x hx => .inl hx⟩
    · have hlow := starts_low hF hst
      have hb := goG_blocks hF.ord hbl key seq (numT es - k) k (by omega)
      have hok : (goG key seq ((rdbT es n).ps.drop k)).2.1 = 0 := by
        rcases hb with hb | hb
        · exact hb.1
        · obtain ⟨x, hx, hbad⟩ := goG_bad key seq _ (show (goG key seq ((partsT es (blksT es (numT es)) (numT es)).drop k)).2.1 ≠ 0 by rw [hb.1]; decide)
          obtain ⟨i, hi, rfl⟩ := List.getElem_of_mem (List.mem_of_mem_drop hx)
          rw [blocks_laid hF i hi] at hbad
          exact absurd rfl hbad
      have hfd : (goG key seq ((rdbT es n).ps.drop k)).2.2 = findT es key seq := by
        rw [find_low hlow.2]
        rcases hb with hb | hb
        · exact hb.2
        · have : (goG key seq ((rdbT es n).ps.drop k)).2.1 = 6 := hb.1
          rw [hok] at this
          cases this
      have hfew := goG_few key seq ((rdbT es n).ps.drop k)
      have hlen : ((rdbT es n).ps.drop k).length ≤ 19 := by
        rw [List.length_drop]
        show (partsT es (blksT es (numT es)) (numT es)).length - k ≤ 19
        rw [partsT_len]
        omega
      refine ⟨F, n + (goG key seq ((rdbT es n).ps.drop k)).1, ?_, ⟨hF, hr⟩, by omega, by omega, fun ho => ?_, ht.mono (fun x hx => by simp at hx; subst hx; exact .inl h.rd.mem), fun x hx => .inl hx⟩
      · rw [← hfd]
        generalize goG key seq ((rdbT es n).ps.drop k) = G at *
        obtain ⟨c, er, o⟩ := G
        simp only at hok
        subst hok
        cases o <;> rfl
      · have := goG_out hF hbl (seq := seq) ho hlow.1 hlow.2 (fun hkn => (starts_high hF hst hkn).2)
        show n + (goG key seq ((partsT es (blksT es (numT es)) (numT es)).drop k)).1 = n
        omega
  range := fun {w p F es n} lo hi h hn h1 h2 => by
    have hF := h.fine
    obtain ⟨hn1, hn2, hpos⟩ := numT_le hF
    have hbl := tblocks hF
    refine (rrange_any h.rd (parts_ne hF _) (by show (partsT es _ (numT es)).length ≤ _; rw [partsT_len]; omega) (parts_small _ (blks_few hF)) (by show n ≤ _; omega) lo hi).mono ?_
    rintro e w' ⟨k, v, hst, rfl, hrow, hnil, hnew, hr, ht⟩
    have hlow := starts_low hF hst
    have hb := goR_blocks hF.ord hbl lo hi (numT es - k) k (by omega)
    have hok : (goR lo hi ((partsT es (blksT es (numT es)) (numT es)).drop k)).2.1 = 0 := by
      rcases hb with hb | hb
      · exact hb.1
      · obtain ⟨x, hx, hbad⟩ := goR_bad lo hi _ (show (goR lo hi ((partsT es (blksT es (numT es)) (numT es)).drop k)).2.1 ≠ 0 by rw [hb]; decide)
        obtain ⟨i, hi', rfl⟩ := List.getElem_of_mem (List.mem_of_mem_drop hx)
        rw [blocks_laid hF i hi'] at hbad
        exact absurd rfl hbad
    have hfd : (goR lo hi ((partsT es (blksT es (numT es)) (numT es)).drop k)).2.2 = rangeE lo hi es := by
      rw [range_low hlow.2]
      rcases hb with hb | hb
      · exact hb.2
      · rw [hok] at hb
        cases hb
    have hcnt : (goR lo hi ((partsT es (blksT es (numT es)) (numT es)).drop k)).1 ≤ mostT es lo hi (numT es) + 1 := by
      by_cases hk : k < numT es
      · have hhi := (starts_high hF hst hk).1
        have h3 := goR_most hF.ord hbl lo hi (numT es - (k + 1)) (k + 1) (by omega) hhi
        have hip : k < (partsT es (blksT es (numT es)) (numT es)).length := by rw [partsT_len]; exact hk
        rw [drop_cons' hip, goR_cons]
        split
        · exact Nat.zero_le _
        · split
          · simp only; omega
          · simp only; omega
      · rw [List.drop_eq_nil_of_le (by rw [partsT_len]; omega)]
        exact Nat.zero_le _
    have hq : (rdbT es n).ps = partsT es (blksT es (numT es)) (numT es) := rfl
    rw [hq] at hrow hnil hr ⊢
    rw [hfd] at hrow hnil
    rw [hok]
    exact ⟨v, F, n + (goR lo hi ((partsT es (blksT es (numT es)) (numT es)).drop k)).1, rfl, ⟨hrow, fun e => .inl (hnil e), fun j hj => ⟨hnew j hj, fun hm => by have := h.rd.lt j hm; have := hnew j hj; omega⟩⟩, ⟨hF, hr⟩, by omega, by omega, ht.mono (fun x hx => by simp at hx; subst hx; exact .inl h.rd.mem), fun x hx => .inl hx⟩
  len := fun h => rlen_any h.rd
  blocks := fun {w p F es n} h => by
    have := rblocks_any h.rd
    rw [show (rdbT es n).ps.length = numT es from partsT_len _ _ _] at this
    exact this
  ends := fun {w p F es n} h => by
    have hF := h.fine
    obtain ⟨hn1, hn2, hpos⟩ := numT_le hF
    have hk0 : keyP (rdbT es n).ps 0 = keyT es 0 := keyP_parts es _ hn2
    have h300 : ∀ i, i < es.length → (keyT es i).size ≤ 300 := fun i hi => (valid_parts (ordB_at hF.ord hi).1).1
    have := rends_any h.rd (parts_ne hF _) (by rw [hk0]; have := h300 0 hpos; omega) (by show (keyT es (es.length - 1)).size ≤ _; have := h300 (es.length - 1) (by omega); omega)
    rw [hk0] at this
    exact this
  read := fun h => rread_any h.rd
end Go.Proofs.YtmnboiikopkaoaaGreat
