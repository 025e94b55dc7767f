/- Contracts: what an operation does behind the count of operations. -/
import Derived.Test.YtlgcbapgbpofoaaGreatFP
namespace Go.Proofs.YtlgcbapgbpofoaaGreat
open Go.RowKit

theorem write_off (fn : FuncId) (caps : Array Value) (b : Nat) (w : World) (h : w.cell? ⟨b, 1, none⟩ = some (.bool false)) :
    Calls Tryz.prog 172 #[.pointer (some ⟨b, 0, none⟩), .func (.func fn) #[] caps] w fun e w' => e = .returned (.int .i64 14) ∧ w = w' := by
  go_enter Tryz.func172, Tryz.ntmps172
  go_wp2_with (go_at_call 231; refine (begun_no _ _ h).mono ?_; rintro e w1 ⟨rfl, rfl⟩)
  go_ret
  exact ⟨rfl, rfl⟩
theorem write_nil (fn : FuncId) (caps : Array Value) (w : World) :
    Calls Tryz.prog 172 #[.pointer none, .func (.func fn) #[] caps] w fun e w' => e = .returned (.int .i64 14) ∧ w = w' := by
  go_enter Tryz.func172, Tryz.ntmps172
  go_wp2_with (go_at_call 231; refine (begun_nil _).mono ?_; rintro e w1 ⟨rfl, rfl⟩)
  go_ret
  exact ⟨rfl, rfl⟩
set_option maxHeartbeats 1000000 in
set_option maxRecDepth 100000 in
theorem write_on (fn : FuncId) (caps : Array Value) (hfn : ∀ w : World, (callFunc fn caps).run Tryz.prog w = .ok (.enter fn caps) w) (act : St → St × Int) {w : World} {r : Rep} {s : St} (h : Sys w r s) (hon : s.on = true) (h1 : 0 ≤ s.steps) (h2 : s.steps ≤ 4611686018427387904) (hfu : s.fuse ≤ 9223372036854775807)
    (hact : ∀ w1, Sys w1 r s.begun → Turn [r.p] w w1 → w1.heap.size = w.heap.size → Calls Tryz.prog fn caps w1 fun e w' => e = .returned (.int .i64 (act s.begun).2) ∧ Next w1 r (act s.begun).1 w') (hst : (act s.begun).1.on = s.begun.on) :
    Calls Tryz.prog 172 #[.pointer (some ⟨r.p, 0, none⟩), .func (.func fn) #[] caps] w fun e w' => e = .returned (.int .i64 (wr s act).2) ∧ Next w r (wr s act).1 w' := by
  have hb := Lib.hid (begin_yes h hon h1 h2 hfu)
  have HA := Lib.hid hact
  clear hact
  go_enter Tryz.func172, Tryz.ntmps172
  go_wp2_with (go_at_call 231; refine hb.out.mono ?_; rintro e w1 ⟨rfl, hs1, ht1, hz1⟩)
  refine (HA.out _ hs1 ht1 hz1).mono ?_
  rintro e w2 ⟨rfl, hn2⟩
  obtain ⟨r2, hs2, hp2, ht2, hf2⟩ := hn2
  have c1 : w2.cell? ⟨r.p, 1, none⟩ = some (.bool s.begun.on) := by
    rw [← hp2, ← hst]
    exact hs2.c1
  have hfin : Next w r (wr s act).1 w2 := by
    have e1 : (wr s act).1 = (act s.begun).1 := by simp [wr, hon]
    rw [e1]
    refine ⟨r2, hs2, hp2, (ht1.mono (G := r.foot) (by simp [Rep.foot])).trans ht2 (fun x hx => .inl hx), fun k hk => ?_⟩
    rcases hf2 k hk with hk | hk
    · exact .inl hk
    · exact .inr (by omega)
  have Hfin := Lib.hid hfin
  have hr : (wr s act).2 = if s.begun.on then (act s.begun).2 else 14 := by simp [wr, hon]
  have Hr := Lib.hid hr
  clear hfin hr
  cases hb : s.begun.on
  · rw [hb] at c1
    rw [hb] at Hr
    go_wp2
    go_ret
    exact ⟨by rw [Hr.out]; rfl, Hfin.out⟩
  · rw [hb] at c1
    rw [hb] at Hr
    go_wp2
    go_ret
    exact ⟨by rw [Hr.out]; rfl, Hfin.out⟩
end Go.Proofs.YtlgcbapgbpofoaaGreat
