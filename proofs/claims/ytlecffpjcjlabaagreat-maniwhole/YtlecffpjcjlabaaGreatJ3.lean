/- The sort of tables. -/
import Derived.Test.YtlecffpjcjlabaaGreatJ2
import Derived.Test.YtlecffpjcjlabaaGreatLaySort
import Derived.Shelf.SlSortCmp.NoneTotal
namespace Go.Proofs.YtlecffpjcjlabaaGreat
open Go.RowKit

theorem swoT : Go.Sort.SWO (ltOf cmpT) where
  irrefl x := lessT_irrefl x
  trans x y z h k := lessT_trans (a := x) (b := y) (c := z) h k
  ntrans x y z h k := lessT_ntrans (a := x) (b := y) (c := z) h k
theorem flat_cell [Inhabited Tb] (ts : List Tb) (j : Nat) (hj : j < ts.length * 5) : (cellsT ts)[j]? = some (Go.Sort.flatK Tb.cells 5 ts.toArray)[j]! := by
  rw [Go.Sort.get_flatK _ _ _ _ (by simpa using hj)]
  have h1 : j / 5 < ts.length := by omega
  have h2 := cellsT_get ts (j / 5) h1 (j % 5) (by omega)
  rw [show j / 5 * 5 + j % 5 = j by omega] at h2
  have e1 : ts.toArray[j / 5]! = ts[j / 5] := by rw [getElem!_pos ts.toArray (j / 5) (by simpa using h1)]; simp
  have h3 : j % 5 < (ts[j / 5].cells).length := by rw [cells_len]; omega
  rw [h2, e1, List.getElem?_eq_getElem h3, getElem!_pos (ts[j / 5].cells) (j % 5) h3]
set_option maxHeartbeats 1000000 in
theorem sortT_any (ts : List Tb) (v : Value) (w : World) (h : RowB w v ts) (hl : ts.length ≤ 100000) :
    Calls Tryz.prog 135 #[v, .func (.func 136) #[] #[]] w fun e w' => e = .returned (.tuple #[]) ∧ ∃ S, S.Perm ts ∧ Stands S ∧ RowB w' v S ∧ Turn (ob v).toList w w' := by
  by_cases h0 : ts = []
  · subst h0
    obtain ⟨a, cap, rfl, -, -⟩ := Row.le h
    refine (AnyF.slices_SortFunc_none Tryz.sortL a cap _ w).mono ?_
    rintro e w' ⟨rfl, rfl⟩
    exact ⟨rfl, [], List.Perm.refl _, List.Pairwise.nil, h, Turn.refl _ _⟩
  · haveI inst : Inhabited Tb := ⟨Tb.zero⟩
    have hne : ts.length ≠ 0 := fun e => h0 (List.eq_nil_of_length_eq_zero e)
    rcases h.2 with ⟨h1, -⟩ | ⟨g, c, cur, rfl, hg, h1, h2, h3, h4⟩
    · exact absurd h1 hne
    have hsz : ts.toArray.size = ts.length := by simp
    have hlt : g < w.heap.size := (Array.getElem?_eq_some_iff.1 hg).1
    have hH : Go.Sort.HoldsK Tb.cells 5 w g 0 ts.toArray := by
      intro j hj
      rw [Go.Sort.size_flatK, hsz] at hj
      refine ⟨?_, by unfold World.frozen?; rw [hg]; simp⟩
      exact Row.cell h g 0 _ rfl j _ (flat_cell ts j hj)
    have eg : ∀ args w, (callFunc 136 args).run Tryz.prog w = .ok (.enter 136 args) w := enters_of Tryz.func136 (by kernel_rfl) rfl
    have hC : CmpLays Tryz.prog 136 #[] Tb.cells 5 cmpT g 0 ts.toArray.size w := fun m os dk _ x y => compareT_any x y _
    have hS := AnyQ.slices_SortFunc Tryz.sortL 5 Tryz.isAgg89 Tryz.sizeOf89 Tb.cells (fun _ => rfl) (fun x u hu => by simp [Tb.cells] at hu; rcases hu with rfl | rfl | rfl | rfl | rfl <;> rfl) cmpT swoT 136 #[] g 0 (c + 1) ts.toArray w eg hC hH hlt (by rw [hsz]; omega)
    rw [hsz] at hS
    refine hS.mono ?_
    rintro e w' ⟨rfl, d', n, os, ⟨hp1, -, hp3⟩, hst, rfl⟩
    rw [hsz] at hp1
    have hdl : d'.toList.length = ts.length := by simpa using hp1
    have hda : d'.toList.toArray = d' := by simp
    refine ⟨rfl, d'.toList, ?_, ?_, ?_, ?_⟩
    · have e1 : d'.extract 0 ts.length = d' := by rw [← hp1]; simp
      have e2 : ts.toArray.extract 0 ts.length = ts.toArray := by simp
      rw [e1, e2] at hp3
      exact hp3
    · refine List.pairwise_iff_getElem.2 fun i j hi hj hij => ?_
      have hi' : i < d'.size := by simpa using hi
      have hj' : j < d'.size := by simpa using hj
      have := hst i j (Nat.zero_le _) hij (by omega)
      rw [getElem!_pos d' i hi', getElem!_pos d' j hj'] at this
      have h' : lessT d'[j] d'[i] = false := this
      simpa using h'
    · have hb : (sortWorldK Tb.cells 5 w g 0 n d' os).heap[g]? = some (.cells (Go.Sort.putCells id 0 (Go.Sort.flatK Tb.cells 5 d') cur) 89 (0, 0)) := by
        unfold sortWorldK Go.Sort.putRowK Go.Sort.putRow Go.Sort.mapBlock
        rw [Go.Sort.heap_grow_old _ _ (by simp [Go.Sort.ahead]; exact hlt)]
        simp only [Array.getElem?_modify, Go.Sort.ahead, if_true, hg, Option.map_some, Go.Sort.onCells]
      refine ⟨cellsT_len _, .inr ⟨g, c, _, by rw [hdl], hb, by rw [hdl]; exact h1, h2, by simp [Go.Sort.putCells, h3], ?_⟩⟩
      apply List.ext_getElem?
      intro j
      rw [List.getElem?_take, hdl]
      split
      · rename_i hj
        rw [flat_cell d'.toList j (by rw [hdl]; exact hj), hda]
        have hjc : j < cur.size := by rw [h3]; have := Nat.mul_le_mul_right 5 h1; omega
        have hjf : j < (Go.Sort.flatK Tb.cells 5 d').size := by rw [Go.Sort.size_flatK, hp1]; exact hj
        simp only [Go.Sort.putCells, Array.getElem?_toList, Array.getElem?_mapIdx]
        rw [Array.getElem?_eq_getElem hjc, Option.map_some, if_pos ⟨Nat.zero_le _, by omega⟩]
        rfl
      · rename_i hj
        rw [List.getElem?_eq_none (by rw [cellsT_len, hdl]; omega)]
    · refine ⟨rfl, rfl, rfl, ?_, fun k hk hn => ?_⟩
      · unfold sortWorldK
        rw [Go.Sort.size_grow]
        unfold Go.Sort.putRowK Go.Sort.putRow Go.Sort.mapBlock
        simp [Go.Sort.ahead]
      · have hkg : ¬ g = k := fun e => hn (by simp [ob, e])
        unfold sortWorldK Go.Sort.putRowK Go.Sort.putRow Go.Sort.mapBlock
        rw [Go.Sort.heap_grow_old _ _ (by simp [Go.Sort.ahead]; exact hk)]
        simp only [Array.getElem?_modify, Go.Sort.ahead, if_neg hkg]
end Go.Proofs.YtlecffpjcjlabaaGreat
