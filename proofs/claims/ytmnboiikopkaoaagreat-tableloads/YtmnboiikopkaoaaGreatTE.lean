/- SameEntries at a seat without the Book; a row of versions as what is appended; rows beside a reader. -/
import Derived.Test.YtmnboiikopkaoaaGreatTL
import Derived.Test.YtmnboiikopkaoaaGreatBSA
import Derived.BigFrame
namespace Go.Proofs.YtmnboiikopkaoaaGreat
open Go.ChangeShapes Go.WideShapes Go.ChangeAt Go.Deep Go.RowKit

def elOf (x : Ent) : ElEntries := ⟨x.k, x.s.toNat, x.n, x.v⟩
theorem elOf_cells {x : Ent} (h : 0 ≤ x.s) : (elOf x).cells = x.cells := by
  show [Value.string x.k, .int .u64 ((x.s.toNat : Nat) : Int), .int .i64 x.n, .string x.v] = [.string x.k, .int .u64 x.s, .int .i64 x.n, .string x.v]
  rw [Int.toNat_of_nonneg h]
theorem sameE_any (a0 a1 : Option Addr) (cap0 cap : Nat) (es : List Ent) (w : World) (h0 : EntsAt w.heap.size w a0 es.length es) (h1 : EntsAt w.heap.size w a1 es.length es) (hp : ∀ x ∈ es, 0 ≤ x.s) (hl : es.length ≤ 1000000) :
    Calls Tryz.prog 15 #[.slice a0 es.length cap0, .slice a1 es.length cap] w fun e w' => e = .returned (.bool true) ∧ ∃ n, w' = w.drewN n := by
  have hm : (es.map elOf).length = es.length := by simp
  rcases h0.2 with hz | ⟨g, off0, rfl, -, c0⟩
  · rw [hz]; exact sameEntries_none a0 a1 cap0 cap w
  · rcases h1.2 with hz | ⟨b, off, rfl, -, c1⟩
    · rw [hz]; exact sameEntries_none _ a1 cap0 cap w
    · have := sameEntries_some g off0 cap0 b off cap (es.map elOf) w (by rw [hm]; exact hl)
        (fun i h j u hu => c0 i (by rw [hm] at h; exact h) j u (by rw [List.getElem_map, elOf_cells (hp _ (List.getElem_mem _))] at hu; exact hu))
        (fun i h j u hu => c1 i (by rw [hm] at h; exact h) j u (by rw [List.getElem_map, elOf_cells (hp _ (List.getElem_mem _))] at hu; exact hu))
      rw [hm] at this
      exact this
theorem addrT (g j : Nat) : (⟨g, 0, none⟩ : Addr).add j = ⟨g, j, none⟩ := by unfold Addr.add; split <;> simp_all
/-- An append whose guard is on and whose run is known. -/
theorem wpList_append_on {P : Program} (w : World) {ops : Array Oper} {rest : List Oper} {o : Oper} {a : Act} {Q : Exit → Act → World → Prop} (hw : Region.wanted o (yielded ops a.tmps) = true) (s x : Operand) (t tx : TypeId)
    (ho : o.op = .call { callee := .builtin .append, args := #[s, x], argTypes := #[t, tx] }) (v xv : Value) (hv : a.eval s = v) (hx : a.eval x = xv) {v' : Value} {w' : World}
    (hr : (Builtin.append_ #[t, tx] o.type #[v, xv]).run P w = .ok v' w') (h : wpList P ops Q rest (a.put o.dst v') w') : wpList P ops Q (o :: rest) a w := by
  refine BigFrame.wpList_want hw fun K hK => ?_
  unfold Oper.wp execOp
  simp only [ho, resolve, invoke, builtin, Sem.run_bind, Sem.run_pure, Result.andThen_ok, List.map_toArray, List.map_cons, List.map_nil, hv, hx, hr]
  exact hK _ _ h
/-- A row of versions as what is appended. -/
theorem row_srcE {w : World} {v : Value} {l : List Ent} (h : Row w 48 4 v l.length (cellsE l)) : Src Tryz.prog 4 22 v l.length (cellsE l) w := by
  have hc := h.cell
  rcases h.2 with ⟨h0, rfl | ⟨b, o, rfl⟩⟩ | ⟨g, cap, cur, e, -⟩
  · have hl : l = [] := List.eq_nil_of_length_eq_zero h0
    subst hl
    exact Src.ofNil (P := Tryz.prog) w Tryz.underlying22 0
  · have hl : l = [] := List.eq_nil_of_length_eq_zero h0
    subst hl
    exact Src.ofSlice (P := Tryz.prog) w Tryz.underlying22 ⟨b, o, none⟩ 0 0 _ rfl (fun j u hu => by cases hu) (cellsE_one [])
  · subst e
    refine Src.ofSlice (P := Tryz.prog) w Tryz.underlying22 ⟨g, 0, none⟩ l.length (cap + 1) _ (cellsE_length l) (fun j u hu => ?_) (cellsE_one l)
    have := hc g 0 _ rfl j u hu
    rw [addrT]
    rwa [Nat.zero_add] at this
theorem row_turn {w w' : World} {F : List Nat} {v : Value} {l : List Ent} (h : Row w 48 4 v l.length (cellsE l)) (t : Turn F w w') (hn : ∀ k, ob v = some k → k ∉ F) : Row w' 48 4 v l.length (cellsE l) := h.kept fun k hk => t.block k (h.lt k hk) (hn k hk)
end Go.Proofs.YtmnboiikopkaoaaGreat
