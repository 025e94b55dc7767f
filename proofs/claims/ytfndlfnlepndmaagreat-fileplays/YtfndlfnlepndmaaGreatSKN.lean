/- Joined: SK SL SM SN. -/
import Derived.Test.YtfndlfnlepndmaaGreatSI
import Derived.Test.YtfndlfnlepndmaaGreatSJ
namespace Go.Proofs.YtfndlfnlepndmaaGreat
open Go.RowKit

theorem madeIds_append (xs ys : List Chg) : madeIds (xs ++ ys) = madeIds xs ++ madeIds ys := by
  unfold madeIds
  rw [List.filterMap_append]
theorem renum_append : ∀ (xs ys : List Chg) (b : Nat), renum b (xs ++ ys) = renum b xs ++ renum (b + (madeIds xs).length) ys
  | [], _, _ => rfl
  | ⟨src, dst, none⟩ :: xs, ys, b => by
    have ih := renum_append xs ys b
    show ⟨src, dst, none⟩ :: renum b (xs ++ ys) = ⟨src, dst, none⟩ :: renum b xs ++ renum (b + (madeIds xs).length) ys
    rw [ih]
    rfl
  | ⟨src, dst, some i⟩ :: xs, ys, b => by
    have ih := renum_append xs ys (b + 1)
    have em : (madeIds (⟨src, dst, some i⟩ :: xs)).length = (madeIds xs).length + 1 := rfl
    rw [em]
    show ⟨src, dst, some b⟩ :: renum (b + 1) (xs ++ ys) = ⟨src, dst, some b⟩ :: renum (b + 1) xs ++ renum (b + ((madeIds xs).length + 1)) ys
    rw [ih, show b + ((madeIds xs).length + 1) = b + 1 + (madeIds xs).length by omega]
    rfl
theorem renum_length : ∀ (xs : List Chg) (b : Nat), (renum b xs).length = xs.length
  | [], _ => rfl
  | ⟨_, _, none⟩ :: xs, b => congrArg (· + 1) (renum_length xs b)
  | ⟨_, _, some _⟩ :: xs, b => congrArg (· + 1) (renum_length xs (b + 1))
/-- The third cell of a chunk. -/
theorem set_third (A B : List Value) (a b c u : Value) (n : Nat) (hn : A.length = n) : (A ++ ([a, b, c] ++ B)).set (n + 2) u = A ++ ([a, b, u] ++ B) := by
  subst hn
  rw [List.set_append_right _ _ (by omega)]
  simp
theorem chunks_length (f : Nat → Nat) : ∀ cs : List Chg, (cs.flatMap (chgCells f)).length = cs.length * 3
  | [] => rfl
  | c :: cs => by
    rw [List.flatMap_cons, List.length_append, chunks_length f cs]
    simp only [chgCells, List.length_cons, List.length_nil]
    omega
theorem chunks_congr {f g : Nat → Nat} {cs : List Chg} (h : ∀ c ∈ cs, ∀ i, c.made = some i → f i = g i) : cs.flatMap (chgCells f) = cs.flatMap (chgCells g) := by
  induction cs with
  | nil => rfl
  | cons c cs ih =>
    rw [List.flatMap_cons, List.flatMap_cons, ih (fun c hc => h c (List.mem_cons_of_mem _ hc))]
    congr 1
    unfold chgCells
    cases hm : c.made with
    | none => rfl
    | some i =>
      simp only [Option.map_some]
      rw [h c (by simp) i hm]
/-- Lists of blocks of distinct names lie apart. -/
theorem nodup_files {G : Nm → Nat × Value} : ∀ {l : Dir}, l.Pairwise (fun p q => p.1 ≠ q.1) → (∀ p ∈ l, (fFoot (G p.1)).Nodup) → (∀ p ∈ l, ∀ q ∈ l, p.1 ≠ q.1 → ∀ k ∈ fFoot (G p.1), k ∉ fFoot (G q.1)) → ((l.map fun p => G p.1).flatMap fFoot).Nodup
  | [], _, _, _ => by simp
  | p :: l, hp, h1, h2 => by
    have hc := List.pairwise_cons.1 hp
    have ih := nodup_files hc.2 (fun q hq => h1 q (List.mem_cons_of_mem _ hq)) (fun q hq r hr => h2 q (List.mem_cons_of_mem _ hq) r (List.mem_cons_of_mem _ hr))
    rw [List.map_cons, List.flatMap_cons, List.nodup_append]
    refine ⟨h1 p (by simp), ih, fun k hk j hj e => ?_⟩
    subst e
    obtain ⟨x, hx, hkx⟩ := List.mem_flatMap.1 hj
    obtain ⟨q, hq, rfl⟩ := List.mem_map.1 hx
    exact h2 p (by simp) q (List.mem_cons_of_mem _ hq) (hc.1 q hq) k hk hkx
end Go.Proofs.YtfndlfnlepndmaaGreat

namespace Go.Proofs.YtfndlfnlepndmaaGreat
open Go.RowKit

def FSof (s : St) (G : Nm → Nat × Value) : List (Nat × Value) := s.last.map fun p => G p.1
def atOf (fs : List (Nat × Value)) (i : Nat) : Nat := (fs.getD i nofile).1
def midFoot (w : World) (pv : Value) (fs : List (Nat × Value)) : List Nat := w.heap.size :: (w.heap.size + 1) :: ((ob pv).toList ++ fs.flatMap fFoot)
structure Mid (w wr : World) (r : Rep) (s : St) (G : Nm → Nat × Value) (pv : Value) (M : List (Nat × Value)) (k : Nat) : Prop where
  bel : Below w.heap.size w wr
  tc : wr.heap[w.heap.size]? = some (.cells (tCells r s (w.heap.size + 1) pv) 70)
  dir : DirAt wr (w.heap.size + 1) (s.last.map fun p => (p.1, (G p.1).1))
  len : M.length = (madeIds (s.pend.take k)).length
  ok : ∀ (i : Nat) (x : Nat × Value) (j : Nat), (FSof s G ++ M)[i]? = some x → (s.last.map (·.2) ++ madeIds (s.pend.take k))[i]? = some j → FileOk wr x (s.files.getD j nofil)
  row : Row wr 80 3 pv s.pend.length ((renum s.last.length (s.pend.take k)).flatMap (chgCells (atOf (FSof s G ++ M))) ++ (s.pend.drop k).flatMap (chgCells r.at))
  nod : (midFoot w pv (FSof s G ++ M)).Nodup
  far : ∀ k ∈ midFoot w pv (FSof s G ++ M), w.heap.size ≤ k
section
variable {w wr : World} {r : Rep} {s : St} {G : Nm → Nat × Value} {pv : Value} {M : List (Nat × Value)} {k : Nat}
theorem Mid.lt (h : Mid w wr r s G pv M k) : ∀ x ∈ midFoot w pv (FSof s G ++ M), x < wr.heap.size := by
  intro x hx
  simp only [midFoot, List.mem_cons, List.mem_append, Option.mem_toList] at hx
  rcases hx with rfl | rfl | hx | hx
  · exact (Array.getElem?_eq_some_iff.1 h.tc).1
  · exact h.dir.lt
  · exact h.row.lt x hx
  · obtain ⟨y, hy, hxy⟩ := List.mem_flatMap.1 hx
    obtain ⟨i, hi⟩ := List.getElem?_of_mem hy
    have hil : i < (s.last.map (·.2) ++ madeIds (s.pend.take k)).length := by
      have h1 := (List.getElem?_eq_some_iff.1 hi).1
      have h2 := h.len
      simp only [FSof, List.length_append, List.length_map] at h1 ⊢
      omega
    exact (h.ok i y _ hi (List.getElem?_eq_getElem hil)).lt x hxy
theorem Mid.kept {w' : World} (h : Mid w wr r s G pv M k) (hb : Below w.heap.size w w') (hk : ∀ x, w.heap.size ≤ x → x < wr.heap.size → w'.heap[x]? = wr.heap[x]?) : Mid w w' r s G pv M k := by
  have hx : ∀ x ∈ midFoot w pv (FSof s G ++ M), w'.heap[x]? = wr.heap[x]? := fun x hm => hk x (h.far x hm) (h.lt x hm)
  refine ⟨hb, (hx _ (by simp [midFoot])).trans h.tc, h.dir.kept (hx _ (by simp [midFoot])), h.len, fun i x j hi hj => (h.ok i x j hi hj).kept (fun y hy => hx y ?_), h.row.kept (fun y hy => hx y (by simp [midFoot, hy])), h.nod, h.far⟩
  simp only [midFoot, List.mem_cons, List.mem_append, List.mem_flatMap]
  exact .inr (.inr (.inr ⟨x, List.mem_append.1 (List.mem_of_getElem? hi), hy⟩))
/-- All names are done, and what is pending was cloned. -/
theorem Half.mid {left : Lit → Bool} {w5 : World} (h : Half w wr r s left G) (hr : Rise s.last) (hl : ∀ kl, left kl = false) (hb5 : Below wr.heap.size wr w5)
    (hrow : Row w5 80 3 pv s.pend.length (s.pend.flatMap (chgCells r.at))) (hob : ∀ x, ob pv = some x → wr.heap.size ≤ x) :
    Mid w (w5.setCell ⟨w.heap.size, 8, none⟩ pv) r s G pv [] 0 := by
  have hsz := h.size
  have hs5 := hb5.size
  have hoth : ∀ x, x ≠ w.heap.size → (w5.setCell ⟨w.heap.size, 8, none⟩ pv).heap[x]? = w5.heap[x]? := fun x hx => heap_setCell_other _ ⟨w.heap.size, 8, none⟩ _ _ hx
  have htc := heap_setCell_same w5 w.heap.size 8 _ _ pv ((hb5.block _ (by omega)).trans h.tc)
  refine ⟨?_, htc, ?_, rfl, ?_, ?_, ?_, ?_⟩
  · refine h.bel.trans ((hb5.mono (by omega)).trans ⟨rfl, rfl, rfl, by simp, fun x hx => hoth x (by omega)⟩)
  · have := h.dir
    rw [doneD_end hl] at this
    exact this.kept ((hoth _ (by omega)).trans (hb5.block _ (by omega)))
  · intro i x j hi hj
    simp only [FSof, List.append_nil, List.getElem?_map, List.take_zero] at hi hj
    have hj' : (s.last.map (·.2))[i]? = some j := by simpa [madeIds] using hj
    rw [List.getElem?_map] at hj'
    cases hp : s.last[i]? with
    | none => rw [hp] at hi; cases hi
    | some p =>
      rw [hp] at hi hj'
      simp only [Option.map_some, Option.some.injEq] at hi hj'
      subst hi hj'
      have hm := List.mem_of_getElem? hp
      have hok := h.ok p hm (hl _)
      refine hok.kept (fun y hy => ?_)
      have hf := h.far p hm (hl _) y hy
      exact (hoth y (by omega)).trans (hb5.block y (hok.lt y hy))
  · have e : ((renum s.last.length (s.pend.take 0)).flatMap (chgCells (atOf (FSof s G ++ []))) ++ (s.pend.drop 0).flatMap (chgCells r.at)) = s.pend.flatMap (chgCells r.at) := rfl
    rw [e]
    exact hrow.kept (fun y hy => hoth y (by have := hob y hy; omega))
  · have hn := nodup_files (G := G) (rise_ne hr) (fun p hp => h.nd p hp (hl _)) (fun p hp q hq => h.dj p hp q hq (hl _) (hl _))
    have hlt : ∀ y ∈ (FSof s G).flatMap fFoot, w.heap.size + 3 ≤ y ∧ y < wr.heap.size := by
      intro y hy
      obtain ⟨x, hx, hyx⟩ := List.mem_flatMap.1 hy
      obtain ⟨p, hp, rfl⟩ := List.mem_map.1 hx
      exact ⟨h.far p hp (hl _) y hyx, (h.ok p hp (hl _)).lt y hyx⟩
    unfold midFoot
    rw [List.append_nil, List.nodup_cons, List.nodup_cons, List.nodup_append]
    have key : ∀ y ∈ (ob pv).toList ++ (FSof s G).flatMap fFoot, w.heap.size + 3 ≤ y := by
      intro y hy
      rcases List.mem_append.1 hy with hy | hy
      · have := hob y (by simpa using hy)
        omega
      · exact (hlt y hy).1
    refine ⟨?_, ?_, ?_, hn, ?_⟩
    · intro hm
      rcases List.mem_cons.1 hm with hm | hm
      · omega
      · have := key _ hm
        omega
    · intro hm
      have := key _ hm
      omega
    · cases ob pv <;> simp
    · intro y hy z hz e
      have h1 := hob y (by simpa using hy)
      have h2 := (hlt z hz).2
      omega
  · intro y hy
    simp only [midFoot, List.append_nil, List.mem_cons, List.mem_append, Option.mem_toList] at hy
    rcases hy with rfl | rfl | hy | hy
    · omega
    · omega
    · have := hob y hy
      omega
    · obtain ⟨x, hx, hyx⟩ := List.mem_flatMap.1 hy
      obtain ⟨p, hp, rfl⟩ := List.mem_map.1 hx
      have := h.far p hp (hl _) y hyx
      omega
end
end Go.Proofs.YtfndlfnlepndmaaGreat

namespace Go.Proofs.YtfndlfnlepndmaaGreat
open Go.RowKit

section
variable {w wr : World} {r : Rep} {s : St} {G : Nm → Nat × Value} {pv : Value} {M : List (Nat × Value)} {k : Nat}
theorem take_succ {α : Type} {l : List α} {k : Nat} {c : α} (h : l[k]? = some c) : l.take (k + 1) = l.take k ++ [c] := by
  rw [List.take_add_one, h]
  rfl
theorem drop_succ {α : Type} {l : List α} {k : Nat} {c : α} (h : l[k]? = some c) : l.drop k = c :: l.drop (k + 1) := by
  obtain ⟨hk, rfl⟩ := List.getElem?_eq_some_iff.1 h
  exact List.drop_eq_getElem_cons hk
theorem Mid.flen (h : Mid w wr r s G pv M k) : (FSof s G ++ M).length = s.last.length + (madeIds (s.pend.take k)).length := by
  rw [List.length_append, h.len]
  simp [FSof]
theorem atOf_app {fs : List (Nat × Value)} {x : Nat × Value} {i : Nat} (h : i < fs.length) : atOf (fs ++ [x]) i = atOf fs i := by
  unfold atOf
  rw [List.getD_eq_getElem?_getD, List.getD_eq_getElem?_getD, List.getElem?_append_left h]
theorem atOf_new {fs : List (Nat × Value)} {x : Nat × Value} : atOf (fs ++ [x]) fs.length = x.1 := by
  unfold atOf
  simp [List.getD_eq_getElem?_getD]
/-- A change that made no file. -/
theorem Mid.step_none {w3 : World} (h : Mid w wr r s G pv M k) {c : Chg} (hk : s.pend[k]? = some c) (hm : c.made = none) (hb3 : Below wr.heap.size wr w3) {g cap : Nat} (hpv : pv = .slice (some ⟨g, 0, none⟩) s.pend.length cap) :
    Mid w (w3.setCell ⟨g, k * 3 + 2, none⟩ (.pointer none)) r s G pv M (k + 1) := by
  have hkl : k < s.pend.length := (List.getElem?_eq_some_iff.1 hk).1
  have h3 := h.kept (w' := w3) (h.bel.trans (hb3.mono h.bel.size)) (fun x _ hx => hb3.block x hx)
  have e1 : madeIds (s.pend.take (k + 1)) = madeIds (s.pend.take k) := by
    rw [take_succ hk, madeIds_append]
    simp [madeIds, hm]
  have e2 : renum s.last.length (s.pend.take (k + 1)) = renum s.last.length (s.pend.take k) ++ [⟨c.src, c.dst, none⟩] := by
    rw [take_succ hk, renum_append]
    simp [renum, hm]
  have hob : (∃ n, cap = n + 1) → ob pv = some g := by
    rintro ⟨n, rfl⟩
    rw [hpv]
    rfl
  have hcap : ∃ n, cap = n + 1 := by
    obtain ⟨a, c', h1, h2, -⟩ := h.row.le
    rw [hpv] at h1
    simp only [Value.slice.injEq] at h1
    exact ⟨cap - 1, by omega⟩
  have hg := hob hcap
  have hnod := h.nod
  have hoth : ∀ y ∈ midFoot w pv (FSof s G ++ M), y ≠ g → (w3.setCell ⟨g, k * 3 + 2, none⟩ (.pointer none)).heap[y]? = w3.heap[y]? := fun y _ hy => heap_setCell_other _ ⟨g, k * 3 + 2, none⟩ _ _ hy
  have hgm : g ∈ (ob pv).toList := by rw [hg]; simp
  have hT : w.heap.size ≠ g := fun e => by
    have := (List.nodup_cons.1 hnod).1
    exact this (by rw [e]; simp [hgm])
  have hMB : w.heap.size + 1 ≠ g := fun e => by
    have := (List.nodup_cons.1 (List.nodup_cons.1 hnod).2).1
    exact this (by rw [e]; simp [hgm])
  have hF : ∀ y ∈ (FSof s G ++ M).flatMap fFoot, y ≠ g := fun y hy e => by
    have := (List.nodup_append.1 (List.nodup_cons.1 (List.nodup_cons.1 hnod).2).2).2.2
    exact this g hgm y hy e.symm
  refine ⟨h3.bel.trans ⟨rfl, rfl, rfl, by simp, fun x hx => heap_setCell_other _ ⟨g, k * 3 + 2, none⟩ _ _ ?_⟩, ?_, ?_, by rw [e1]; exact h.len, ?_, ?_, h.nod, h.far⟩
  · have := h.far g (by simp [midFoot, hgm])
    show x ≠ g
    omega
  · exact (hoth _ (by simp [midFoot]) hT).trans h3.tc
  · exact h3.dir.kept (hoth _ (by simp [midFoot]) hMB)
  · intro i x j hi hj
    rw [e1] at hj
    refine (h3.ok i x j hi hj).kept (fun y hy => ?_)
    have hyf : y ∈ (FSof s G ++ M).flatMap fFoot := List.mem_flatMap.2 ⟨x, List.mem_of_getElem? hi, hy⟩
    exact hoth y (by simp only [midFoot, List.mem_cons, List.mem_append]; exact .inr (.inr (.inr hyf))) (hF y hyf)
  · have hr := h3.row.set hpv (k * 3 + 2) (by omega) (.pointer none)
    rw [drop_succ hk, List.flatMap_cons] at hr
    have hA : ((renum s.last.length (s.pend.take k)).flatMap (chgCells (atOf (FSof s G ++ M)))).length = k * 3 := by
      rw [chunks_length, renum_length, List.length_take, Nat.min_eq_left (by omega)]
    have ec : chgCells r.at c = [.string ⟨c.src.toArray⟩, .string ⟨c.dst.toArray⟩, pAt (c.made.map r.at)] := rfl
    rw [ec, set_third _ _ _ _ _ _ _ hA] at hr
    rw [e2, List.flatMap_append, List.append_assoc]
    exact hr
/-- A change that made a file: x' is its copy. -/
theorem Mid.step_some {w3 : World} (h : Mid w wr r s G pv M k) {c : Chg} {j : Nat} (hk : s.pend[k]? = some c) (hm : c.made = some j) (hb3 : Below wr.heap.size wr w3) {g cap : Nat} (hpv : pv = .slice (some ⟨g, 0, none⟩) s.pend.length cap)
    {x' : Nat × Value} (hok : FileOk w3 x' (s.files.getD j nofil)) (hf : ∀ y ∈ fFoot x', wr.heap.size ≤ y) (hn : (fFoot x').Nodup) :
    Mid w (w3.setCell ⟨g, k * 3 + 2, none⟩ (.pointer (some ⟨x'.1, 0, none⟩))) r s G pv (M ++ [x']) (k + 1) := by
  have hkl : k < s.pend.length := (List.getElem?_eq_some_iff.1 hk).1
  have h3 := h.kept (w' := w3) (h.bel.trans (hb3.mono h.bel.size)) (fun x _ hx => hb3.block x hx)
  have e1 : madeIds (s.pend.take (k + 1)) = madeIds (s.pend.take k) ++ [j] := by
    rw [take_succ hk, madeIds_append]
    simp [madeIds, hm]
  have hfl := h.flen
  have e2 : renum s.last.length (s.pend.take (k + 1)) = renum s.last.length (s.pend.take k) ++ [⟨c.src, c.dst, some (FSof s G ++ M).length⟩] := by
    rw [take_succ hk, renum_append, hfl]
    simp [renum, hm]
  have hcap : ∃ n, cap = n + 1 := by
    obtain ⟨a, c', h1, h2, -⟩ := h.row.le
    rw [hpv] at h1
    simp only [Value.slice.injEq] at h1
    exact ⟨cap - 1, by omega⟩
  have hg : ob pv = some g := by
    obtain ⟨n, rfl⟩ := hcap
    rw [hpv]
    rfl
  have hnod := h.nod
  have hoth : ∀ y, y ≠ g → (w3.setCell ⟨g, k * 3 + 2, none⟩ (.pointer (some ⟨x'.1, 0, none⟩))).heap[y]? = w3.heap[y]? := fun y hy => heap_setCell_other _ ⟨g, k * 3 + 2, none⟩ _ _ hy
  have hgm : g ∈ (ob pv).toList := by rw [hg]; simp
  have hglt : g < wr.heap.size := h.lt g (by simp [midFoot, hgm])
  have hT : w.heap.size ≠ g := fun e => by
    have := (List.nodup_cons.1 hnod).1
    exact this (by rw [e]; simp [hgm])
  have hMB : w.heap.size + 1 ≠ g := fun e => by
    have := (List.nodup_cons.1 (List.nodup_cons.1 hnod).2).1
    exact this (by rw [e]; simp [hgm])
  have hF : ∀ y ∈ (FSof s G ++ M).flatMap fFoot, y ≠ g := fun y hy e => by
    have := (List.nodup_append.1 (List.nodup_cons.1 (List.nodup_cons.1 hnod).2).2).2.2
    exact this g hgm y hy e.symm
  have efs : FSof s G ++ (M ++ [x']) = (FSof s G ++ M) ++ [x'] := (List.append_assoc _ _ _).symm
  have emf : midFoot w pv (FSof s G ++ (M ++ [x'])) = midFoot w pv (FSof s G ++ M) ++ fFoot x' := by
    unfold midFoot
    rw [efs, List.flatMap_append]
    simp
  refine ⟨h3.bel.trans ⟨rfl, rfl, rfl, by simp, fun x hx => hoth x ?_⟩, ?_, ?_, ?_, ?_, ?_, ?_, ?_⟩
  · have := h.far g (by simp [midFoot, hgm])
    omega
  · exact (hoth _ hT).trans h3.tc
  · exact h3.dir.kept (hoth _ hMB)
  · rw [e1, List.length_append, List.length_append, h.len]
    rfl
  · intro i x q hi hj
    rw [efs] at hi
    rw [e1, ← List.append_assoc] at hj
    have hll : (s.last.map (·.2) ++ madeIds (s.pend.take k)).length = (FSof s G ++ M).length := by
      rw [hfl, List.length_append, List.length_map]
    by_cases hlt : i < (FSof s G ++ M).length
    · rw [List.getElem?_append_left hlt] at hi
      rw [List.getElem?_append_left (by omega)] at hj
      refine (h3.ok i x q hi hj).kept (fun y hy => hoth y (hF y (List.mem_flatMap.2 ⟨x, List.mem_of_getElem? hi, hy⟩)))
    · rw [List.getElem?_append_right (by omega)] at hi
      rw [List.getElem?_append_right (by omega)] at hj
      have hi0 : i - (FSof s G ++ M).length = 0 := by
        have := (List.getElem?_eq_some_iff.1 hi).1
        simp only [List.length_cons, List.length_nil] at this
        omega
      rw [hi0] at hi
      rw [hll, hi0] at hj
      simp only [List.getElem?_cons_zero, Option.some.injEq] at hi hj
      subst hi hj
      exact hok.kept (fun y hy => hoth y (by have := hf y hy; omega))
  · have hr := h3.row.set hpv (k * 3 + 2) (by omega) (.pointer (some ⟨x'.1, 0, none⟩))
    rw [drop_succ hk, List.flatMap_cons] at hr
    have hA : ((renum s.last.length (s.pend.take k)).flatMap (chgCells (atOf (FSof s G ++ M)))).length = k * 3 := by
      rw [chunks_length, renum_length, List.length_take, Nat.min_eq_left (by omega)]
    have ec : chgCells r.at c = [.string ⟨c.src.toArray⟩, .string ⟨c.dst.toArray⟩, pAt (c.made.map r.at)] := rfl
    rw [ec, set_third _ _ _ _ _ _ _ hA] at hr
    have eA : (renum s.last.length (s.pend.take k)).flatMap (chgCells (atOf (FSof s G ++ M))) = (renum s.last.length (s.pend.take k)).flatMap (chgCells (atOf (FSof s G ++ (M ++ [x'])))) := by
      refine chunks_congr (fun d hd i hi => ?_)
      have := renum_lt _ _ d hd i hi
      rw [efs, atOf_app (by omega)]
    have eN : chgCells (atOf (FSof s G ++ (M ++ [x']))) ⟨c.src, c.dst, some (FSof s G ++ M).length⟩ = [.string ⟨c.src.toArray⟩, .string ⟨c.dst.toArray⟩, .pointer (some ⟨x'.1, 0, none⟩)] := by
      rw [efs]
      show [_, _, pAt (some (atOf ((FSof s G ++ M) ++ [x']) (FSof s G ++ M).length))] = _
      rw [atOf_new]
      rfl
    rw [eA] at hr
    rw [e2, List.flatMap_append, List.append_assoc, List.flatMap_cons, List.flatMap_nil, List.append_nil, eN]
    exact hr
  · rw [emf, List.nodup_append]
    refine ⟨hnod, hn, fun y hy z hz e => ?_⟩
    have h1 := h.lt y hy
    have h2 := hf z hz
    omega
  · intro y hy
    rw [emf] at hy
    rcases List.mem_append.1 hy with hy | hy
    · exact h.far y hy
    · have h1 := hf y hy
      have h2 := h.bel.size
      omega
end
end Go.Proofs.YtfndlfnlepndmaaGreat

namespace Go.Proofs.YtfndlfnlepndmaaGreat
open Go.RowKit

theorem idx_at (G : Nm → Nat × Value) (post : List (Nat × Value)) : ∀ (l : Dir) (pre : List (Nat × Value)), mapD (atOf (pre ++ ((l.map fun p => G p.1) ++ post))) (idxD pre.length l) = l.map fun p => (p.1, (G p.1).1)
  | [], _ => rfl
  | p :: l, pre => by
    have ih := idx_at G post l (pre ++ [G p.1])
    rw [List.length_append, List.length_singleton, List.append_assoc] at ih
    have key : ∀ F : Nat → Nat, mapD F (idxD pre.length (p :: l)) = (p.1, F pre.length) :: mapD F (idxD (pre.length + 1) l) := fun _ => rfl
    have e : atOf (pre ++ (((p :: l).map fun p => G p.1) ++ post)) pre.length = (G p.1).1 := by
      unfold atOf
      simp [List.getD_eq_getElem?_getD]
    rw [key, e]
    exact congrArg ((p.1, (G p.1).1) :: ·) ih
section
variable {w wr : World} {r : Rep} {s : St} {G : Nm → Nat × Value} {pv : Value} {M : List (Nat × Value)}
def twinRep (w : World) (mn : Nat) (pv : Value) (fs : List (Nat × Value)) : Rep := ⟨w.heap.size, mn, w.heap.size + 1, pv, fs⟩
theorem Mid.lastm (h : Mid w wr r s G pv M s.pend.length) : DirAt wr (w.heap.size + 1) (mapD (atOf (FSof s G ++ M)) (idxD 0 s.last)) := by
  have e := idx_at G M s.last []
  have := h.dir
  rw [← e] at this
  exact this
theorem Mid.pendm (h : Mid w wr r s G pv M s.pend.length) : Row wr 80 3 pv (renum s.last.length s.pend).length ((renum s.last.length s.pend).flatMap (chgCells (atOf (FSof s G ++ M)))) := by
  have := h.row
  rw [List.take_length, List.drop_length, List.flatMap_nil, List.append_nil] at this
  rw [renum_length]
  exact this
theorem Mid.sys (h : Mid w wr r s G pv M s.pend.length) (hw : WF s) (hC : Coh s) {w5 : World} {mn : Nat} (hb5 : Below wr.heap.size wr w5) (hmn : wr.heap.size ≤ mn) (hd : DirAt w5 mn (mapD (atOf (FSof s G ++ M)) (twinSt s).now)) :
    Sys (w5.setCell ⟨w.heap.size, 6, none⟩ (.map (some mn))) (twinRep w mn pv (FSof s G ++ M)) (twinSt s) := by
  have h5 := h.kept (w' := w5) (h.bel.trans (hb5.mono h.bel.size)) (fun x _ hx => hb5.block x hx)
  have hT : w.heap.size < wr.heap.size := h.lt _ (by simp [midFoot])
  have hoth : ∀ y, y ≠ w.heap.size → (w5.setCell ⟨w.heap.size, 6, none⟩ (.map (some mn))).heap[y]? = w5.heap[y]? := fun y hy => heap_setCell_other _ ⟨w.heap.size, 6, none⟩ _ _ hy
  have hne : ∀ y ∈ (w.heap.size + 1) :: ((ob pv).toList ++ (FSof s G ++ M).flatMap fFoot), y ≠ w.heap.size := fun y hy e => (List.nodup_cons.1 h.nod).1 (e ▸ hy)
  have hmnn : mn ∉ midFoot w pv (FSof s G ++ M) := fun hm => by have := h.lt mn hm; omega
  refine ⟨heap_setCell_same w5 w.heap.size 6 _ _ _ h5.tc, hd.kept (hoth mn (by omega)), h5.lastm.kept (hoth _ (by omega)), h5.pendm.kept (fun y hy => hoth y (hne y (by simp [hy]))), ?_, ?_, ?_, (twin_of hw).wf hw hC⟩
  · have := h.flen
    rw [List.take_length] at this
    show (FSof s G ++ M).length = _
    rw [this]
    simp [twinSt, oldIds]
  · intro i x f hx hf
    have hf' : ((oldIds s).map fun i => s.files.getD i nofil)[i]? = some f := hf
    rw [List.getElem?_map] at hf'
    cases ho : (oldIds s)[i]? with
    | none => rw [ho] at hf'; cases hf'
    | some j =>
      rw [ho] at hf'
      simp only [Option.map_some, Option.some.injEq] at hf'
      subst hf'
      have hx' : (FSof s G ++ M)[i]? = some x := hx
      refine (h5.ok i x j hx' (by rw [List.take_length]; exact ho)).kept (fun y hy => hoth y (hne y ?_))
      exact List.mem_cons_of_mem _ (List.mem_append.2 (.inr (List.mem_flatMap.2 ⟨x, List.mem_of_getElem? hx', hy⟩)))
  · show (w.heap.size :: mn :: (w.heap.size + 1) :: ((ob pv).toList ++ (FSof s G ++ M).flatMap fFoot)).Nodup
    have hn := List.nodup_cons.1 h.nod
    refine List.nodup_cons.2 ⟨fun hm => ?_, List.nodup_cons.2 ⟨fun hm => hmnn (List.mem_cons_of_mem _ hm), hn.2⟩⟩
    rcases List.mem_cons.1 hm with e | hm
    · exact hmnn (by rw [← e]; simp [midFoot])
    · exact hn.1 hm
end
end Go.Proofs.YtfndlfnlepndmaaGreat
