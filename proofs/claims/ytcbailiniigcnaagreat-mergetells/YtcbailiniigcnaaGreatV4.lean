/- The document's own Latest and Cut. -/
import Derived.Test.YtcbailiniigcnaaGreatVB14
import Derived.Laws.StructEq
import Derived.Deep.CutRange
namespace Go.Proofs.YtcbailiniigcnaaGreat
open Go.ChangeShapes Go.WideShapes Go.ChangeAt Go.Deep Go.RowKit

theorem latS_snoc (seq : Int) (x : Ent) : ∀ (l : List Ent) (p : Option Ent), latS seq p (l ++ [x]) = latS seq p l ++ (if hideB seq ((p.toList ++ l).getLast?) x = true then [] else [(x.k, x.v)])
  | [], p => by
    rw [List.nil_append, latS_cons]
    cases p <;> simp [latS]
  | e :: r, p => by
    rw [List.cons_append, latS_cons, latS_cons, latS_snoc seq x r (some e), List.append_assoc]
    have : (p.toList ++ e :: r).getLast? = ((some e).toList ++ r).getLast? := by
      cases p <;> simp [List.getLast?_cons_cons]
    rw [this]
theorem latE_snoc (seq : Int) (l : List Ent) (x : Ent) : latE seq (l ++ [x]) = latE seq l ++ (if hideB seq l.getLast? x = true then [] else [(x.k, x.v)]) := by
  unfold latE
  rw [latS_snoc]
  rfl
def hide1 (seq : Int) (p : Option Ent) (e : Ent) : Bool := decide (seq < e.s) || (match p with | some y => decide (y.k = e.k) && decide (y.s ≤ seq) | none => false)
theorem hide1_split (seq : Int) (p : Option Ent) (e : Ent) : hideB seq p e = (hide1 seq p e || decide (e.n = 2)) := rfl
theorem hide1_none (seq : Int) (e : Ent) : hide1 seq none e = decide (seq < e.s) := by simp [hide1]
theorem hide1_some (seq : Int) (y e : Ent) : hide1 seq (some y) e = (decide (seq < e.s) || (decide (y.k = e.k) && decide (y.s ≤ seq))) := rfl
theorem beq_dec (a b : ByteArray) : (a.toList == b.toList) = decide (a = b) := by
  rw [ByteArray.toList_eq, ByteArray.toList_eq]
  by_cases h : a = b
  · subst h; simp
  · rw [decide_eq_false h, beq_eq_false_iff_ne]
    exact fun e => h (bytes_ext e)
theorem infoQ14 : (Tryz.prog.info? 58).map (fun i => (i.zero, i.size, i.bytes)) = some (some (.agg #[.string ⟨#[]⟩, .string ⟨#[]⟩]), 2, 32) := by kernel_rfl
theorem cellsQ_append (a b : List (ByteArray × ByteArray)) : cellsQ (a ++ b) = cellsQ a ++ cellsQ b := by simp [cellsQ]
set_option maxHeartbeats 8000000 in
set_option maxRecDepth 100000 in
theorem rlatest_any (seq : Int) (a : Option Addr) (n cap : Nat) (ls : List (List Ent)) (w : World) (hL : LsAt w a n ls) (hn : n ≤ 1000) (hl : ls.flatten.length ≤ 50000) (hok : ∀ l ∈ ls, ∀ x ∈ l, x.k.size ≤ 9223372036854775807) :
    Calls Tryz.prog 15 #[.int .u64 seq, .slice a n cap] w fun e w' => ∃ v, e = .returned v ∧ NewR w.heap.size w' 58 2 v (latE seq (allE ls.flatten)).length (cellsQ (latE seq (allE ls.flatten))) ∧ Below w.heap.size w w' := by
  obtain ⟨i0, hi0, hz0, hzs, hzb⟩ := info_parts infoQ14
  have C1 := Lib.hid (rall_any a n cap ls w hL hn hl hok)
  have hlen : (allE ls.flatten).length ≤ 50000 := Nat.le_trans (allE_length _) hl
  clear hL hok hl
  generalize allE ls.flatten = L at *
  go_enter Tryz.func15, Tryz.ntmps15
  go_wp2_with fail
  go_at_call 10
  refine C1.out.mono ?_
  rintro _ w1 ⟨v1, rfl, hO, b1⟩
  obtain ⟨al, cl, rfl, hE⟩ := row_ents hO.row
  have HE := Lib.hid (reads_of hE)
  have HB1 := Lib.hid b1
  clear C1 hO b1 hE
  go_wp2_with fail
  go_loopw [6, 7] (fun ov iv wr => ∃ (i : Nat) (V : Value), V = ov ∧ iv = .int .i64 (i : Int) ∧ i ≤ L.length ∧ Hid (NewR w1.heap.size wr 58 2 V (latE seq (L.take i)).length (cellsQ (latE seq (L.take i)))) ∧ Hid (Below w1.heap.size w1 wr)) (fun _ iv _ => L.length - (intOf iv).toNat)
  case atStart => exact ⟨0, _, rfl, rfl, Nat.zero_le _, Lib.hid ⟨row_nil _ _ _, fun b hb => none_ne hb⟩, Lib.hid (Below.refl _ _)⟩
  case round =>
    obtain ⟨i, V, rfl, rfl, hile, HR, HB⟩ := hrel
    obtain ⟨wo, hwo⟩ : ∃ wo, wo = wr := ⟨wr, rfl⟩
    subst hwo
    by_cases hlt : i < L.length
    · have HTK := Lib.hid (ent_take L i hlt)
      have hei := HE.out wo HB.out
      obtain ⟨b, off, rfl, hb, hcell⟩ : ∃ b off, al = some ⟨b, off, none⟩ ∧ b < wo.heap.size ∧ Hid (∀ k (h : k < L.length) j u, L[k].cells[j]? = some u → wo.cell? ⟨b, off + k * 4 + j, none⟩ = some u) := by
        rcases hei.2 with h0 | ⟨b, off, e, h1, h2⟩
        · omega
        · exact ⟨b, off, e, h1, h2⟩
      have hli : (i : Int) < (L.length : Int) := by omega
      have hgi : L[i]? = some L[i] := List.getElem?_eq_getElem hlt
      have hci := hcell.out i hlt
      generalize L[i] = X at hgi hci HTK
      obtain ⟨xk, xs, xn, xv⟩ := X
      have q0 : wo.cell? ⟨b, off + i * 4, none⟩ = some (.string xk) := hci 0 _ rfl
      have q1 : wo.cell? ⟨b, off + i * 4 + 1, none⟩ = some (.int .u64 xs) := hci 1 _ rfl
      have q2 : wo.cell? ⟨b, off + i * 4 + 2, none⟩ = some (.int .i64 xn) := hci 2 _ rfl
      have q3 : wo.cell? ⟨b, off + i * 4 + 3, none⟩ = some (.string xv) := hci 3 _ rfl
      obtain ⟨H1, hH1⟩ : ∃ H : Bool, H = hide1 seq (L.take i).getLast? ⟨xk, xs, xn, xv⟩ := ⟨_, rfl⟩
      have HH1 := Lib.hid hH1
      have HNX := Lib.hid (show latE seq (L.take (i + 1)) = latE seq (L.take i) ++ (if H1 = true ∨ xn = 2 then [] else [(xk, xv)]) by
        rw [HTK.out, latE_snoc]
        rw [hide1_split, ← hH1]
        simp)
      clear hH1 hci hgi hei
      go_wp2_with fail
      go_cut [50] from 10 to 70 (fun tv wx => tv = .bool H1 ∧ Below wo.heap.size wo wx)
      case first =>
        obtain ⟨G1, hG1⟩ : ∃ G, decide (seq < xs) = G := ⟨_, rfl⟩
        by_cases h0 : 0 < i
        · obtain ⟨m, hm⟩ : ∃ m, m = i - 1 := ⟨_, rfl⟩
          have hml : m < L.length := by omega
          have hcm := hcell.out m hml
          have hgl : (L.take i).getLast? = some L[m] := by
            rw [List.getLast?_eq_getElem?, List.length_take, List.getElem?_take, if_pos (by omega), show min i L.length - 1 = m by omega, List.getElem?_eq_getElem hml]
          generalize L[m] = Y at hcm hgl
          obtain ⟨yk, ys, yn, yv⟩ := Y
          have p0 : wo.cell? ⟨b, off + m * 4, none⟩ = some (.string yk) := hcm 0 _ rfl
          have p1 : wo.cell? ⟨b, off + m * 4 + 1, none⟩ = some (.int .u64 ys) := hcm 1 _ rfl
          obtain ⟨G2, hG2⟩ : ∃ G, (yk.toList == xk.toList) = G := ⟨_, rfl⟩
          obtain ⟨G3, hG3⟩ : ∃ G, decide (ys ≤ seq) = G := ⟨_, rfl⟩
          have HV := Lib.hid (show H1 = (G1 || (G2 && G3)) by rw [HH1.out, hgl, hide1_some, ← beq_dec]; simp only; rw [hG1, hG2, hG3])
          have hd0 : decide ((0 : Int) < (i : Int)) = true := by simp; omega
          have hi0' : (0 : Int) < (i : Int) := by omega
          have hij : (i : Int) - 1 = (m : Int) := by omega
          have hwi : IntKind.i64.wrap ((i : Int) - 1) = (m : Int) := by rw [IntKind.wrap_i64]; omega
          have hmi : (m : Int) < (L.length : Int) := by omega
          clear hm hcm hgl
          cases G1 with
          | true =>
            clear hG2 hG3
            go_wp2_with fail
            go_quiet (fail)
            go_wp2_with fail
            go_meet
            exact ⟨by rw [HV.out]; rfl, belowN (Below.refl _ _) _⟩
          | false =>
            cases G2 with
            | true =>
              go_wp2_with fail
              go_quiet (fail)
              go_wp2_with fail
              go_meet
              exact ⟨by rw [HV.out]; simp, belowN (Below.refl _ _) _⟩
            | false =>
              clear hG3
              go_wp2_with fail
              go_quiet (fail)
              go_wp2_with fail
              go_meet
              exact ⟨by rw [HV.out]; rfl, belowN (Below.refl _ _) _⟩
        · have hi00 : i = 0 := by omega
          have HV := Lib.hid (show H1 = G1 by rw [HH1.out, hi00, List.take_zero, List.getLast?_nil, hide1_none]; exact hG1)
          have hd0 : decide ((0 : Int) < (i : Int)) = false := by simp; omega
          clear hi00
          cases G1 with
          | true =>
            go_wp2_with fail
            go_quiet (fail)
            go_wp2_with fail
            go_meet
            exact ⟨by rw [HV.out], belowN (Below.refl _ _) _⟩
          | false =>
            go_wp2_with fail
            go_quiet (fail)
            go_wp2_with fail
            go_meet
            exact ⟨by rw [HV.out], belowN (Below.refl _ _) _⟩
      case rest =>
        obtain ⟨rfl, hbc⟩ := hcut
        have r0 : wc.cell? ⟨b, off + i * 4, none⟩ = some (.string xk) := (hbc.cell (p := ⟨b, _, none⟩) hb).trans q0
        have r2 : wc.cell? ⟨b, off + i * 4 + 2, none⟩ = some (.int .i64 xn) := (hbc.cell (p := ⟨b, _, none⟩) hb).trans q2
        have r3 : wc.cell? ⟨b, off + i * 4 + 3, none⟩ = some (.string xv) := (hbc.cell (p := ⟨b, _, none⟩) hb).trans q3
        have HBC := Lib.hid (HB.out.trans (hbc.mono HB.out.size))
        have HRC := Lib.hid (show NewR w1.heap.size wc 58 2 V (latE seq (L.take i)).length (cellsQ (latE seq (L.take i))) from ⟨row_below HR.out.row hbc, HR.out.new⟩)
        have hbl : b < wc.heap.size := Nat.lt_of_lt_of_le hb hbc.size
        have hpl : (latE seq (L.take i)).length ≤ 50000 := Nat.le_trans (latE_length _ _) (by rw [List.length_take]; omega)
        clear hbc HR q0 q1 q2 q3 hcell HH1
        generalize latE seq (L.take i) = P at *
        obtain ⟨PN, hPN⟩ : ∃ PN, latE seq (L.take (i + 1)) = PN := ⟨_, rfl⟩
        have HPN := Lib.hid hPN
        have hnx := HNX.out
        rw [hPN] at hnx
        have HNX2 := Lib.hid hnx
        clear hPN HNX hnx
        cases H1 with
        | true =>
          have HN := Lib.hid (show NewR w1.heap.size wc 58 2 V PN.length (cellsQ PN) by rw [HNX2.out, if_pos (.inl rfl), List.append_nil]; exact HRC.out)
          clear HRC
          go_wp2_with fail
          go_roundw
          case rel => exact ⟨i + 1, V, rfl, by go_num, hlt, by rw [HPN.out]; exact HN, HBC⟩
          case measure => simp [intOf]; omega
        | false =>
          by_cases hn2 : xn = 2
          · have hn2b : (xn != 2) = false := by rw [hn2]; rfl
            have HN := Lib.hid (show NewR w1.heap.size wc 58 2 V PN.length (cellsQ PN) by rw [HNX2.out, if_pos (.inr hn2), List.append_nil]; exact HRC.out)
            clear HRC
            go_wp2_with fail
            go_roundw
            case rel => exact ⟨i + 1, V, rfl, by go_num, hlt, by rw [HPN.out]; exact HN, HBC⟩
            case measure => simp [intOf]; omega
          · have hn2b : (xn != 2) = true := by simpa using hn2
            have HNE := Lib.hid (show PN = P ++ [(xk, xv)] by rw [HNX2.out, if_neg (by simp [hn2])])
            have HB6 := Lib.hid ((Below.refl wc.heap.size wc).alloc (Nat.le_refl _) (.cells #[.string xk, .string xv] 58))
            have HRW := Lib.hid (show Row ((wc.alloc (.cells #[.string xk, .string xv] 58)).drew) 58 2 V P.length (cellsQ P) from row_below HRC.out.row HB6.out.drew)
            have HRN := Lib.hid HRC.out.new
            have HSRC := Lib.hid (Src.ofSlice (P := Tryz.prog) (wc.alloc (.cells #[.string xk, .string xv] 58)).drew (size := 2) Tryz.underlying45 ⟨wc.heap.size, 0, none⟩ 1 1 [.string xk, .string xv] rfl (fun j u hu => by
              match j, hu with
              | 0, hu => simpa [Addr.add] using hu
              | 1, hu => simpa [Addr.add] using hu) (by simp [Value.oneCell']))
            have HBa := Lib.hid (show P.length + 1 ≤ maxLen by unfold maxLen; omega)
            have HBb := Lib.hid (show (P.length + 1) * 32 ≤ 140737488355328 by omega)
            clear HRC HNX2
            go_wp2_with fail
            go_region_law (refine step_append_row _ rfl (.tmp 57) (.tmp 69) 45 45 rfl 58 i0 _ 2 32 Tryz.underlying45 hi0 hz0 hzs hzb rfl V _ _ (by simp [Act.eval]) HRW.out _ (by simp [Act.eval]) 1 _ HSRC.out HBa.out HBb.out ?_; intro v' w5 hrow5 hgrow5 hob5)
            all_goals
              have hb6 : Below w1.heap.size w1 (wc.alloc (.cells #[.string xk, .string xv] 58)).drew := HBC.out.trans (HB6.out.drew.mono HBC.out.size)
              have HB5 := Lib.hid (below_row hb6 (Nat.le_refl _) hgrow5 HRN.out)
              have hn5 := ob_new hob5 hb6.size HRN.out
              have HN := Lib.hid (show NewR w1.heap.size w5 58 2 v' PN.length (cellsQ PN) from by
                rw [HNE.out, List.length_append, cellsQ_append]
                exact ⟨hrow5, hn5⟩)
              clear hb6 hn5 hrow5 hgrow5 hob5
            all_goals go_wp2_with fail
            all_goals go_roundw
            all_goals first
              | exact ⟨i + 1, v', rfl, by go_num, hlt, by rw [HPN.out]; exact HN, HB5⟩
              | (simp [intOf]; omega)
    · obtain rfl : i = L.length := by omega
      have h1 := HR.out
      rw [List.take_length] at h1
      have HR1 := Lib.hid h1
      clear h1 HR
      go_wp2_with fail
      go_ret
      exact ⟨V, rfl, ⟨HR1.out.row, fun b hb => Nat.le_trans HB1.out.size (HR1.out.new b hb)⟩, HB1.out.trans (HB.out.mono HB1.out.size)⟩
end Go.Proofs.YtcbailiniigcnaaGreat
