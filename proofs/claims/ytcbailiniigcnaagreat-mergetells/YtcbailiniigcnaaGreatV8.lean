/- The statements' helpers for lists of versions: Lent, Same, Stays. -/
import Derived.Test.YtcbailiniigcnaaGreatV2
import Derived.Test.YtcbailiniigcnaaGreatOkEntries
namespace Go.Proofs.YtcbailiniigcnaaGreat
open Go.RowKit

def elOf (x : Ent) : ElEntries := ⟨x.k, x.s.toNat, x.n, x.v⟩
theorem elOf_cells {x : Ent} (h : 0 ≤ x.s) : (elOf x).cells = x.cells := by
  show [Value.string x.k, .int .u64 ((x.s.toNat : Nat) : Int), .int .i64 x.n, .string x.v] = [.string x.k, .int .u64 x.s, .int .i64 x.n, .string x.v]
  rw [Int.toNat_of_nonneg h]
theorem sameE_any (a0 a1 : Option Addr) (cap0 cap : Nat) (es : List Ent) (w : World) (h0 : EntsAt w.heap.size w a0 es.length es) (h1 : EntsAt w.heap.size w a1 es.length es) (hp : ∀ x ∈ es, 0 ≤ x.s) (hl : es.length ≤ 1000000) :
    Calls Tryz.prog 13 #[.slice a0 es.length cap0, .slice a1 es.length cap] w fun e w' => e = .returned (.bool true) ∧ ∃ n, w' = w.drewN n := by
  have hm : (es.map elOf).length = es.length := by simp
  rcases h0.2 with hz | ⟨g, off0, rfl, -, c0⟩
  · rw [hz]; exact sameEntries_none a0 a1 cap0 cap w
  · rcases h1.2 with hz | ⟨b, off, rfl, -, c1⟩
    · rw [hz]; exact sameEntries_none _ a1 cap0 cap w
    · have := sameEntries_some g off0 cap0 b off cap (es.map elOf) w (by rw [hm]; exact hl)
        (fun i h j u hu => c0 i (by rw [hm] at h; exact h) j u (by rw [List.getElem_map, elOf_cells (hp _ (List.getElem_mem _))] at hu; exact hu))
        (fun i h j u hu => c1 i (by rw [hm] at h; exact h) j u (by rw [List.getElem_map, elOf_cells (hp _ (List.getElem_mem _))] at hu; exact hu))
      rw [hm] at this
      exact this
def markE : List Value := [.string ⟨#[109, 97, 114, 107]⟩, .int .u64 0, .int .i64 0, .string ⟨#[]⟩]
theorem row_new {w : World} {e : TypeId} {size : Nat} {v : Value} {n : Nat} {xs : List Value} (h : Row w e size v n xs) (o : Obj) : Row (w.alloc o) e size v n xs :=
  h.kept fun k hk => Below.heap_alloc w o k (h.lt k hk)
/-- Where a row made by append out of nothing lies. -/
theorem ob_newM {w w1 : World} {v1 : Value} (h : ob v1 = ob (.slice none 0 0) ∨ (ob v1 = some w.heap.size ∧ w.grownBy w1 none)) : ∀ k, ob v1 = some k → w.heap.size ≤ k := by
  intro k hk
  rcases h with e | ⟨e, -⟩
  · rw [e] at hk
    simp [ob] at hk
  · rw [e] at hk
    cases hk
    exact Nat.le_refl _
theorem lent_form {w w1 w2 : World} {e : TypeId} {size n : Nat} {v1 v2 : Value} {xs : List Value} {o : Obj} (h : Row w2 e size v2 (n + 1) xs) (hob : ob v2 = ob v1 ∨ (ob v2 = some (w1.heap.size + 1) ∧ (w1.alloc o).grownBy w2 none)) (h1 : ∀ k, ob v1 = some k → w.heap.size ≤ k) (hs : w.heap.size ≤ w1.heap.size) : ∃ g c, v2 = .slice (some ⟨g, 0, none⟩) (n + 1) (c + 1) ∧ w.heap.size ≤ g := by
  rcases h.2 with ⟨h0, -⟩ | ⟨g, cap, cur, rfl, -⟩
  · cases h0
  · refine ⟨g, cap, rfl, ?_⟩
    rcases hob with e | ⟨e, -⟩
    · exact h1 g (by rw [← e]; rfl)
    · have : g = w1.heap.size + 1 := Option.some.inj e
      omega
theorem lent_below {w w1 w2 : World} {v1 : Value} {o : Obj} (hb : Below w.heap.size w w1) (hg : (w1.alloc o).grownBy w2 (ob v1)) (h1 : ∀ k, ob v1 = some k → w.heap.size ≤ k) : Below w.heap.size w w2 :=
  (hb.alloc hb.size o).trans ((turn_of_grown (F := (ob v1).toList) hg (fun k hk => .inl (by simp [hk]))).below (by have := hb.size; simp; omega) (fun k hk => h1 k (by simpa using hk)))
theorem lent_cap {w : World} {e : TypeId} {size n g c : Nat} {xs : List Value} (h : Row w e size (.slice (some ⟨g, 0, none⟩) n c) n xs) : n ≤ c := by
  obtain ⟨a, cap, e, h1, -⟩ := h.le
  cases e
  exact h1
set_option maxHeartbeats 2000000 in
set_option maxRecDepth 100000 in
/-- What LentEntries tells: its own row, and behind it a mark. -/
theorem lentE_any (a : Option Addr) (cap : Nat) (ws : List Ent) (w : World) (hs : Src Tryz.prog 4 26 (.slice a ws.length cap) ws.length (cellsE ws) w) (hl : ws.length ≤ 1000000) :
    Calls Tryz.prog 7 #[.slice a ws.length cap] w fun e w' => ∃ g c, e = .returned (.slice (some ⟨g, 0, none⟩) ws.length (c + 1)) ∧ Row w' 56 4 (.slice (some ⟨g, 0, none⟩) (ws.length + 1) (c + 1)) (ws.length + 1) (cellsE ws ++ markE) ∧ w.heap.size ≤ g ∧ Below w.heap.size w w' := by
  obtain ⟨i0, hi, hz0, hzs, hzb⟩ := info_parts infoE5
  have HS := Lib.hid hs
  have HB1 := Lib.hid (show 0 + ws.length ≤ maxLen by unfold maxLen; omega)
  have HB2 := Lib.hid (show (0 + ws.length) * 48 ≤ 140737488355328 by omega)
  have HB3 := Lib.hid (show ws.length + 1 ≤ maxLen by unfold maxLen; omega)
  have HB4 := Lib.hid (show (ws.length + 1) * 48 ≤ 140737488355328 by omega)
  clear hs
  go_enter Tryz.func7, Tryz.ntmps7
  have HM := Lib.hid (show ∀ w1 : World, Src Tryz.prog 4 26 (.slice (some ⟨w1.heap.size, 0, none⟩) 1 1) 1 markE (w1.alloc (.cells #[.string ⟨#[109, 97, 114, 107]⟩, .int .u64 0, .int .i64 0, .string ⟨#[]⟩] 56)) from fun w1 => Src.ofSlice (P := Tryz.prog) _ (size := 4) Tryz.underlying26 ⟨w1.heap.size, 0, none⟩ 1 1 _ rfl (fun j u hu => by
    match j, hu with
    | 0, hu => simpa [Addr.add, markE] using hu
    | 1, hu => simpa [Addr.add, markE] using hu
    | 2, hu => simpa [Addr.add, markE] using hu
    | 3, hu => simpa [Addr.add, markE] using hu) (by simp [markE, Value.oneCell']))
  go_wp2_with (at_builtin; refine wpList_append_row _ rfl _ _ 26 26 rfl 56 i0 _ 4 48 Tryz.underlying26 hi hz0 hzs hzb rfl (.slice none 0 0) 0 [] rfl (row_nil _ _ _) _ rfl ws.length _ HS.out HB1.out HB2.out ?_)
  intro v1 w1 hrow1 hgrow1 hob1
  have hb1 : Below w.heap.size w w1 := (turn_of_grown (F := []) hgrow1 (fun k hk => by simp [ob] at hk)).below (Nat.le_refl _) (by simp)
  try simp only [Nat.zero_add, List.nil_append] at hrow1
  have HR1 := Lib.hid hrow1
  have HO1 := Lib.hid hob1
  have HBW := Lib.hid hb1
  clear hrow1 hgrow1 hob1 hb1
  go_wp2_with (at_builtin; refine wpList_append_row _ rfl _ _ 26 26 rfl 56 i0 _ 4 48 Tryz.underlying26 hi hz0 hzs hzb rfl v1 _ _ rfl (row_new HR1.out _) _ rfl 1 _ (HM.out _) HB3.out HB4.out ?_)
  intro v2 w2 hrow2 hgrow2 hob2
  obtain ⟨g, c, rfl, hgb⟩ := lent_form (w := w) hrow2 hob2 (ob_newM HO1.out) HBW.out.size
  have hb2 := lent_below HBW.out hgrow2 (ob_newM HO1.out)
  have HR2 := Lib.hid hrow2
  have hcap : ws.length + 1 ≤ c + 1 := lent_cap hrow2
  have HB := Lib.hid hb2
  clear hrow2 hgrow2 hob2 hb2
  go_wp2
  go_ret
  exact ⟨g, c, rfl, HR2.out, hgb, HB.out⟩
theorem src_ents {n₀ : Nat} {w : World} {a : Option Addr} {cap : Nat} {ws : List Ent} (h : EntsAt n₀ w a ws.length ws) (hn : a = none → ws = [] ∧ cap = 0) : Src Tryz.prog 4 26 (.slice a ws.length cap) ws.length (cellsE ws) w := by
  cases a with
  | none =>
    obtain ⟨h1, h2⟩ := hn rfl
    subst h1 h2
    exact Src.ofNil (P := Tryz.prog) (w := w) Tryz.underlying26 0
  | some y =>
    refine Src.ofSlice (P := Tryz.prog) _ (size := 4) Tryz.underlying26 y ws.length cap (cellsE ws) (cellsE_length ws) (fun j u hu => ?_) (cellsE_one ws)
    rcases h.2 with h0 | ⟨b, off, e, -, hc⟩
    · have := (List.getElem?_eq_some_iff.1 hu).1
      rw [cellsE_length] at this
      omega
    · cases e
      have hj := (List.getElem?_eq_some_iff.1 hu).1
      rw [cellsE_length] at hj
      have hadd : (⟨b, off, none⟩ : Addr).add j = ⟨b, off + j, none⟩ := by unfold Addr.add; split <;> simp_all
      rw [hadd]
      have hi : j / 4 < ws.length := by omega
      have h3 : j % 4 < (ws[j / 4]).cells.length := by
        show j % 4 < 4
        omega
      have h4 := cellsE_get ws (j / 4) hi (j % 4) _ (List.getElem?_eq_getElem h3)
      rw [show j / 4 * 4 + j % 4 = j by omega, hu] at h4
      have h5 := hc (j / 4) hi (j % 4) _ (List.getElem?_eq_getElem h3)
      rw [show off + j / 4 * 4 + j % 4 = off + j by omega] at h5
      rw [h5, ← h4]
/-- A list that was lent, and its mark. -/
structure LentEs (w : World) (g c : Nat) (ws : List Ent) : Prop where
  row : Row w 56 4 (.slice (some ⟨g, 0, none⟩) (ws.length + 1) (c + 1)) (ws.length + 1) (cellsE ws ++ markE)
theorem LentEs.ents {w : World} {g c : Nat} {ws : List Ent} (h : LentEs w g c ws) : EntsAt w.heap.size w (some ⟨g, 0, none⟩) ws.length ws := by
  refine ⟨rfl, .inr ⟨g, 0, rfl, h.row.lt g rfl, fun i hi j u hu => ?_⟩⟩
  have h1 := cellsE_get ws i hi j u hu
  have h2 := h.row.cell g 0 (c + 1) rfl (i * 4 + j) u (by rw [List.getElem?_append_left (List.getElem?_eq_some_iff.1 h1).1]; exact h1)
  rw [← Nat.add_assoc] at h2
  exact h2
theorem LentEs.mark {w : World} {g c : Nat} {ws : List Ent} (h : LentEs w g c ws) : w.cell? ⟨g, ws.length * 4, none⟩ = some (.string ⟨#[109, 97, 114, 107]⟩) := by
  have h2 := h.row.cell g 0 (c + 1) rfl (ws.length * 4) (.string ⟨#[109, 97, 114, 107]⟩) (by rw [List.getElem?_append_right (by rw [cellsE_length]; exact Nat.le_refl _), cellsE_length, Nat.sub_self]; rfl)
  rw [Nat.zero_add] at h2
  exact h2
theorem LentEs.cap {w : World} {g c : Nat} {ws : List Ent} (h : LentEs w g c ws) : ws.length + 1 ≤ c + 1 := lent_cap h.row
theorem LentEs.keep {w w' : World} {g c : Nat} {ws : List Ent} (h : LentEs w g c ws) (hk : w'.heap[g]? = w.heap[g]?) : LentEs w' g c ws := ⟨h.row.kept fun k hk' => by cases hk'; exact hk⟩
set_option maxHeartbeats 1000000 in
theorem staysE_any (g c : Nat) (a : Option Addr) (cap : Nat) (ws : List Ent) (w : World) (h : LentEs w g c ws) (hw : EntsAt w.heap.size w a ws.length ws) (hp : ∀ x ∈ ws, 0 ≤ x.s) (hl : ws.length ≤ 1000000) :
    Calls Tryz.prog 18 #[.slice (some ⟨g, 0, none⟩) ws.length (c + 1), .slice a ws.length cap] w fun e w' => e = .returned (.bool true) ∧ Below w.heap.size w w' := by
  have HC := Lib.hid (sameE_any (some ⟨g, 0, none⟩) a (c + 1) cap ws w h.ents hw hp hl)
  have hm := h.mark
  have hcap := h.cap
  clear h hw
  go_enter Tryz.func18, Tryz.ntmps18
  go_wp2_with (go_at_call 13; refine HC.out.mono ?_; rintro e w' ⟨rfl, n, rfl⟩)
  go_ret
  exact ⟨rfl, ⟨rfl, rfl, rfl, Nat.le_refl _, fun _ _ => rfl⟩⟩
end Go.Proofs.YtcbailiniigcnaaGreat
