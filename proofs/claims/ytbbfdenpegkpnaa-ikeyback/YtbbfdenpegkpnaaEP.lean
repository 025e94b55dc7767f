/- ikey's Put. -/
import Derived.Test.YtbbfdenpegkpnaaEN
import Derived.Test.YtbbfdenpegkpnaaE3
import Derived.Laws.Concat
namespace Go.Proofs.Ytbbfdenpegkpnaa
open Go.RowKit

theorem text1 (x : ByteArray) (b : Nat) (W : World) (hx : x.size ≤ 1000000) (h : W.cell? ⟨b, 0, none⟩ = some (.string x)) :
    Calls Try.prog 44 #[.slice (some ⟨b, 0, none⟩) 1 1] W fun e w' => e = .returned (.string ⟨(texts [x]).toArray⟩) ∧ Below W.heap.size W w' :=
  text_any b 0 1 [x] W (fun s hs => by simp at hs; subst hs; unfold maxLen; omega) (by simp [total]; omega) (fun i hi => by
    obtain rfl : i = 0 := by simp at hi; omega
    exact h) (World.block_lt_of_cell? W _ h)
theorem var2 (x y : Nat) (b : Nat) (W : World) (hx : x < 18446744073709551616) (hy : y < 18446744073709551616) (h0 : W.cell? ⟨b, 0, none⟩ = some (.int .u64 (x : Int))) (h1 : W.cell? ⟨b, 1, none⟩ = some (.int .u64 (y : Int))) :
    Calls Try.prog 45 #[.slice (some ⟨b, 0, none⟩) 2 2] W fun e w' => e = .returned (.string ⟨(vars [x, y]).toArray⟩) ∧ Below W.heap.size W w' :=
  var_any b 0 2 [x, y] W (fun s hs => by simp at hs; rcases hs with rfl | rfl <;> assumption) (by simp) (fun i hi => by
    match i, hi with
    | 0, _ => exact h0
    | 1, _ => exact h1) (World.block_lt_of_cell? W _ h0)
theorem drc {X : World} {a : Addr} {v : Option Value} (h : X.cell? a = v) : X.drew.cell? a = v := h
theorem new1 {X : World} {v : Value} {e : TypeId} {n : Nat} (hn : n = X.heap.size) : (X.alloc (.cells #[v] e)).cell? ⟨n, 0, none⟩ = some v := nce hn rfl
theorem new2 {X : World} {v u : Value} {e : TypeId} {n : Nat} (hn : n = X.heap.size) : (X.alloc (.cells #[v, u] e)).cell? ⟨n, 0, none⟩ = some v := nce hn rfl
theorem new3 {X : World} {v u : Value} {e : TypeId} {n : Nat} (hn : n = X.heap.size) : (X.alloc (.cells #[v, u] e)).cell? ⟨n, 1, none⟩ = some u := nce hn rfl
theorem bt {a b c : World} (h : Below a.heap.size a b) (k : Below b.heap.size b c) : Below a.heap.size a c := h.trans (k.mono h.size)
theorem ba {a b : World} (h : Below a.heap.size a b) (o : Obj) : Below a.heap.size a (b.alloc o) := h.alloc h.size o
theorem bd {a b : World} (h : Below a.heap.size a b) : Below a.heap.size a b.drew := h.drew
theorem str_data (l : List UInt8) : (⟨l.toArray⟩ : ByteArray).size = l.length := by simp [ByteArray.size]
set_option maxHeartbeats 40000000 in
set_option maxRecDepth 100000 in
theorem put_ok (k : ByteArray) (s n : Nat) (v : ByteArray) (w : World) (hk : k.size ≤ 300) (hv : v.size ≤ 60000) (hs : s < 18446744073709551616) (hn : n ≤ 9223372036854775807) (hval : validB k n v = true) :
    Calls Try.prog 22 #[.agg #[.string k, .int .u64 (s : Int), .int .i64 (n : Int), .string v]] w fun e w' => e = .returned (.tuple #[.string (⟨(texts [k]).toArray⟩ ++ ⟨(vars [s, n]).toArray⟩ ++ ⟨(texts [v]).toArray⟩), .int .i64 0]) ∧ Below w.heap.size w w' := by
  have CT := Lib.hid (fun b W h => text1 k b W (by omega) h)
  have CU := Lib.hid (fun b W h => text1 v b W (by omega) h)
  have CV := Lib.hid (fun b W h0 h1 => var2 s n b W hs (by omega) h0 h1)
  have cx := fun W => valid_any k s n v W (by unfold maxLen; omega) (by unfold maxLen; omega)
  rw [hval] at cx
  have CX := Lib.hid cx
  unfold ev at CX
  have hwr : IntKind.u64.wrap (n : Int) = (n : Int) := by rw [IntKind.wrap_u64]; omega
  have l1 : (⟨(texts [k]).toArray⟩ : ByteArray).data.size ≤ 1000 := by
    have := texts_length [k] (fun x hx => by simp at hx; subst hx; unfold maxLen; omega)
    have e := str_data (texts [k])
    simp [total] at this
    show (⟨(texts [k]).toArray⟩ : ByteArray).size ≤ 1000
    omega
  have l2 : (⟨(texts [v]).toArray⟩ : ByteArray).data.size ≤ 100000 := by
    have := texts_length [v] (fun x hx => by simp at hx; subst hx; unfold maxLen; omega)
    have e := str_data (texts [v])
    simp [total] at this
    show (⟨(texts [v]).toArray⟩ : ByteArray).size ≤ 100000
    omega
  have l3 : (⟨(vars [s, n]).toArray⟩ : ByteArray).data.size ≤ 1000 := by
    have := vars_length [s, n] (fun x hx => by simp at hx; omega)
    have e := str_data (vars [s, n])
    simp at this
    show (⟨(vars [s, n]).toArray⟩ : ByteArray).size ≤ 1000
    omega
  generalize (⟨(texts [k]).toArray⟩ : ByteArray) = TK at *
  generalize (⟨(texts [v]).toArray⟩ : ByteArray) = TV at *
  generalize (⟨(vars [s, n]).toArray⟩ : ByteArray) = VV at *
  have m1 : TK.size ≤ 1000 := l1
  have m2 : TV.size ≤ 100000 := l2
  have m3 : VV.size ≤ 1000 := l3
  have m4 : (TK ++ VV).size ≤ 2000 := by rw [ByteArray.size_append]; omega
  have n1 : TK.size + VV.size ≤ 9223372036854775807 := by omega
  have n2 : TK.size + VV.size + TV.size ≤ 9223372036854775807 := by omega
  have n3 : (TK ++ VV).size + TV.size ≤ 9223372036854775807 := by omega
  have g1 : ¬ 9223372036854775807 < TK.size + VV.size := by omega
  have g2 : ¬ 9223372036854775807 < TK.size + VV.size + TV.size := by omega
  have g3 : ¬ 9223372036854775807 < (TK ++ VV).size + TV.size := by omega
  have j1 : ∀ w, (Op.stringOp .add TK VV).run Try.prog w = .ok (.string (TK ++ VV)) w := fun w => run_string_add_sum w _ _ n1
  have j2 : ∀ w, (Op.stringOp .add (TK ++ VV) TV).run Try.prog w = .ok (.string (TK ++ VV ++ TV)) w := fun w => run_string_add_sum w _ _ n3
  clear cx
  go_enter Try.func22, Try.ntmps22
  go_wp2_with (first | (go_at_call 23; (with_reducible refine (CX.out _).mono ?_); rintro e W ⟨rfl, hb0⟩) | fail)
  have x0 : Boxe w.heap.size k s n v W := Boxe.below (new_block w _ rfl) hb0
  have c0 := x0.c0
  have c1 := x0.c1
  have c2 := x0.c2
  have c3 := x0.c3
  have hlt := x0.lt
  have bW : Below w.heap.size w W := bt ((Below.refl _ _).alloc (Nat.le_refl _) _) hb0
  go_region_held3 (fun w' => w'.cell? ⟨w.heap.size, 0, none⟩ = some (.string k) ∧ w'.cell? ⟨w.heap.size, 1, none⟩ = some (.int .u64 (s : Int)) ∧ w'.cell? ⟨w.heap.size, 2, none⟩ = some (.int .i64 (n : Int)) ∧ w'.cell? ⟨w.heap.size, 3, none⟩ = some (.string v)) (first | assumption | (refine ⟨?_, ?_, ?_, ?_⟩ <;> (repeat (first | with_reducible exact c0 | with_reducible exact c1 | with_reducible exact c2 | with_reducible exact c3 | with_reducible refine drc ?_ | with_reducible exact new1 (by first | omega | (simp; done) | (simp; omega)) | with_reducible exact new2 (by first | omega | (simp; done) | (simp; omega)) | with_reducible exact new3 (by first | omega | (simp; done) | (simp; omega)) | with_reducible refine oce (by first | omega | (simp; done) | (simp; omega)) ?_ | with_reducible refine (hb3.cell (by first | omega | (simp; done) | (simp; omega))).trans ?_ | with_reducible refine (hb2.cell (by first | omega | (simp; done) | (simp; omega))).trans ?_ | with_reducible refine (hb1.cell (by first | omega | (simp; done) | (simp; omega))).trans ?_)))) (first
    | (go_at_call 44; (with_reducible refine (CT.out _ _ ?hc).mono ?_); (case hc => (repeat (first | with_reducible exact c0 | with_reducible exact c1 | with_reducible exact c2 | with_reducible exact c3 | with_reducible refine drc ?_ | with_reducible exact new1 (by first | omega | (simp; done) | (simp; omega)) | with_reducible exact new2 (by first | omega | (simp; done) | (simp; omega)) | with_reducible exact new3 (by first | omega | (simp; done) | (simp; omega)) | with_reducible refine oce (by first | omega | (simp; done) | (simp; omega)) ?_ | with_reducible refine (hb3.cell (by first | omega | (simp; done) | (simp; omega))).trans ?_ | with_reducible refine (hb2.cell (by first | omega | (simp; done) | (simp; omega))).trans ?_ | with_reducible refine (hb1.cell (by first | omega | (simp; done) | (simp; omega))).trans ?_)); done); rintro e W1 ⟨rfl, hb1⟩; have z1 := hb1.size; (try simp at z1))
    | (go_at_call 45; (with_reducible refine (CV.out _ _ ?hc ?hd).mono ?_); (case hc => (repeat (first | with_reducible exact c0 | with_reducible exact c1 | with_reducible exact c2 | with_reducible exact c3 | with_reducible refine drc ?_ | with_reducible exact new1 (by first | omega | (simp; done) | (simp; omega)) | with_reducible exact new2 (by first | omega | (simp; done) | (simp; omega)) | with_reducible exact new3 (by first | omega | (simp; done) | (simp; omega)) | with_reducible refine oce (by first | omega | (simp; done) | (simp; omega)) ?_ | with_reducible refine (hb3.cell (by first | omega | (simp; done) | (simp; omega))).trans ?_ | with_reducible refine (hb2.cell (by first | omega | (simp; done) | (simp; omega))).trans ?_ | with_reducible refine (hb1.cell (by first | omega | (simp; done) | (simp; omega))).trans ?_)); done); (case hd => (repeat (first | with_reducible exact c0 | with_reducible exact c1 | with_reducible exact c2 | with_reducible exact c3 | with_reducible refine drc ?_ | with_reducible exact new1 (by first | omega | (simp; done) | (simp; omega)) | with_reducible exact new2 (by first | omega | (simp; done) | (simp; omega)) | with_reducible exact new3 (by first | omega | (simp; done) | (simp; omega)) | with_reducible refine oce (by first | omega | (simp; done) | (simp; omega)) ?_ | with_reducible refine (hb3.cell (by first | omega | (simp; done) | (simp; omega))).trans ?_ | with_reducible refine (hb2.cell (by first | omega | (simp; done) | (simp; omega))).trans ?_ | with_reducible refine (hb1.cell (by first | omega | (simp; done) | (simp; omega))).trans ?_)); done); rintro e W2 ⟨rfl, hb2⟩; have z2 := hb2.size; (try simp at z2))
    | (go_at_call 44; (with_reducible refine (CU.out _ _ ?hc).mono ?_); (case hc => (repeat (first | with_reducible exact c0 | with_reducible exact c1 | with_reducible exact c2 | with_reducible exact c3 | with_reducible refine drc ?_ | with_reducible exact new1 (by first | omega | (simp; done) | (simp; omega)) | with_reducible exact new2 (by first | omega | (simp; done) | (simp; omega)) | with_reducible exact new3 (by first | omega | (simp; done) | (simp; omega)) | with_reducible refine oce (by first | omega | (simp; done) | (simp; omega)) ?_ | with_reducible refine (hb3.cell (by first | omega | (simp; done) | (simp; omega))).trans ?_ | with_reducible refine (hb2.cell (by first | omega | (simp; done) | (simp; omega))).trans ?_ | with_reducible refine (hb1.cell (by first | omega | (simp; done) | (simp; omega))).trans ?_)); done); rintro e W3 ⟨rfl, hb3⟩; have z3 := hb3.size; (try simp at z3))
    | fail)
  all_goals go_wp2
  all_goals refine bodyPost_ret (results_tmp2 rfl _ _ _) rfl ?_
  all_goals refine ⟨rfl, ?_⟩
  all_goals (repeat (first | with_reducible exact bW | with_reducible refine bd ?_ | with_reducible refine ba ?_ _ | with_reducible refine bt ?_ hb3 | with_reducible refine bt ?_ hb2 | with_reducible refine bt ?_ hb1))
end Go.Proofs.Ytbbfdenpegkpnaa
