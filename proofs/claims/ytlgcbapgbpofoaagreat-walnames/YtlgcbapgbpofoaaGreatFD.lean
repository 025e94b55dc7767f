/- A directory in memory: a map from names to pointers, read as a rising list. -/
import Derived.Test.YtlgcbapgbpofoaaGreatFM
import Derived.Maps.OwnSet
import Derived.Maps.OwnOps
import Derived.Maps.Ext
import Derived.Maps.RangeWalk
import Derived.Sort.KeysCollected
import Derived.Below
namespace Go.Proofs.YtlgcbapgbpofoaaGreat
open Go.Maps (Keyed)

def pElem : Value → Option (DataW Unit × List MemPlace)
  | .pointer none => some (.nil, [])
  | .pointer (some ⟨b, 0, none⟩) => some (.lit (.int .i64 b), [])
  | _ => none
def pAt : Option Nat → Value
  | none => .pointer none
  | some b => .pointer (some ⟨b, 0, none⟩)
theorem pElem_some (b : Nat) : pElem (.pointer (some ⟨b, 0, none⟩)) = some (.lit (.int .i64 b), []) := rfl
theorem pElem_inv {v : Value} {y : DataW Unit × List MemPlace} (h : pElem v = some y) : (v = .pointer none ∧ y = (.nil, [])) ∨ ∃ b : Nat, v = .pointer (some ⟨b, 0, none⟩) ∧ y = (.lit (.int .i64 b), []) := by
  unfold pElem at h
  split at h
  · exact .inl ⟨rfl, by simpa using h.symm⟩
  · rename_i b
    exact .inr ⟨b, rfl, by simpa using h.symm⟩
  · cases h
def encD (l : Dir) : List (Lit × DataW Unit) := l.map fun p => (.string p.1, .lit (.int .i64 p.2))
theorem encD_length (l : Dir) : (encD l).length = l.length := by unfold encD; simp
theorem encD_del (l : Dir) (n : Nm) : (DataW.map (encD l)).del (.string n) = .map (encD (ddel l n)) := by
  rw [DataW.del_eq]
  unfold ChangeMaps.delKey encD ddel
  rw [List.filter_map]
  congr 1
theorem encD_ins (x : Nm × Nat) : ∀ l : Dir, DataW.insert (.string x.1, .lit (.int .i64 x.2)) (encD l) = encD (dins x l)
  | [] => rfl
  | y :: r => by
    have ih := encD_ins x r
    unfold encD at *
    simp only [List.map_cons, DataW.insert, dins]
    show (if bytesBefore x.1 y.1 = true then _ else _) = _
    split
    · rfl
    · rw [ih]; rfl
theorem encD_put (l : Dir) (n : Nm) (a : Nat) : (DataW.map (encD l)).put (.string n) (.lit (.int .i64 a)) = .map (encD (dput l n a)) := by
  have h := encD_del l n
  rw [DataW.del_eq] at h
  rw [DataW.put_eq]
  unfold ChangeMaps.putKey dput
  rw [← encD_ins]
  have h' : List.filter (ChangeMaps.notKey (.string n)) (encD l) = encD (ddel l n) := by
    simpa [ChangeMaps.delKey] using h
  rw [h']
theorem encD_at (l : Dir) (n : Nm) (z : DataW Unit) : (DataW.map (encD l)).atKey (.string n) z = match dget l n with | some a => .lit (.int .i64 a) | none => z := by
  unfold DataW.atKey encD dget
  simp only
  rw [List.find?_map]
  have : ((fun p : Lit × DataW Unit => p.1.sameKey (.string n)) ∘ fun p : Nm × Nat => ((.string p.1, .lit (.int .i64 p.2)) : Lit × DataW Unit)) = fun p => p.1 == n := by
    funext p
    rfl
  rw [this]
  cases l.find? (fun p => p.1 == n) <;> rfl
theorem encD_has (l : Dir) (n : Nm) : Maps.has (DataW.map (encD l)) (.string n) = (dget l n).isSome := by
  unfold Maps.has encD dget
  simp only [List.any_map]
  rw [Option.isSome_map, List.isSome_find?]
  rfl
theorem encD_keys (l : Dir) : strKeys (DataW.map (encD l)) = l.map (·.1) := by
  unfold strKeys encD
  simp only
  rw [List.map_map]
  rfl
theorem encD_rise {l : Dir} (h : Maps.Canon (DataW.map (encD l))) : Rise l := by
  obtain ⟨es, he, hp, -⟩ := h
  cases he
  unfold encD at hp
  rw [List.pairwise_map] at hp
  exact hp

section
variable {P : Program} {k e t : TypeId} {w : World} {b : Nat} {l : Dir}
/-- Block b is a directory. -/
def OwnsDir (P : Program) (k : TypeId) (w : World) (b : Nat) (l : Dir) : Prop := w.ownsMap P k pElem b l.length (.map (encD l))

theorem ownsDir_of {n : Nat} (h : w.ownsMap P k pElem b n (.map (encD l))) : OwnsDir P k w b l := by
  obtain ⟨es, clock, hb, F, hs, hD⟩ := h
  refine ⟨es, clock, hb, F, ?_, hD⟩
  have h1 := DataW.map.inj hD
  have h2 := congrArg List.length h1
  rw [length_sorted, encD_length] at h2
  simp at h2
  omega
theorem OwnsDir.lt (h : OwnsDir P k w b l) : b < w.heap.size := World.ownsMap.lt h
theorem OwnsDir.kept {w' : World} (h : OwnsDir P k w b l) (hb : w'.heap[b]? = w.heap[b]?) : OwnsDir P k w' b l := by
  obtain ⟨es, clock, h1, F, hs, hD⟩ := h
  exact ⟨es, clock, hb.trans h1, F, hs, hD⟩
theorem OwnsDir.rise (h : OwnsDir P k w b l) (K : Keyed P k) : Rise l := encD_rise (World.ownsMap.canon h K)
theorem OwnsDir.look (h : OwnsDir P k w b l) (hk : P.underlying k = some .string) (ht : P.underlying t = some (.map k e)) (hz : ∀ w, (zeroValue e).run P w = .ok (.pointer none) w) (s : ByteArray) (hs : s.size ≤ maxLen) :
    (Instr.lookup t (.map (some b)) (.string s) false).run P w = .ok (pAt (dget l s.data.toList)) w := by
  obtain ⟨v, ps, hrun, hv⟩ := World.ownsMap.lookup h (Maps.string_keyed hk) ht (hz w) (zd := .nil) (zp := []) rfl (WideMaps.keyOf_string_mk hk hs)
  rw [encD_at] at hv
  rw [hrun]
  congr 1
  rcases pElem_inv hv with ⟨rfl, hy⟩ | ⟨c, rfl, hy⟩
  · cases hd : dget l s.data.toList with
    | none => rfl
    | some a => rw [hd] at hy; simp at hy
  · cases hd : dget l s.data.toList with
    | none => rw [hd] at hy; simp at hy
    | some a =>
      rw [hd] at hy
      simp at hy
      show _ = Value.pointer (some ⟨a, 0, none⟩)
      have : a = c := by omega
      rw [this]
theorem OwnsDir.cloned {b' : Nat} {w' : World} (h : OwnsDir P k w b l) (hb : w'.heap[b']? = w.heap[b]?) : OwnsDir P k w' b' l := by
  obtain ⟨es, clock, h1, F, hs, hD⟩ := h
  exact ⟨es, clock, hb.trans h1, F, hs, hD⟩
end
end Go.Proofs.YtlgcbapgbpofoaaGreat
