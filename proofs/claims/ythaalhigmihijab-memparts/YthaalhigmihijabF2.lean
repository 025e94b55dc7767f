/- Joined: FM FD FS NC FA FC FO FP FQ. -/
import Derived.WideAt
import Derived.WideShapes
import Derived.Maps.OwnSet
import Derived.Maps.OwnOps
import Derived.Maps.Ext
import Derived.Maps.RangeWalk
import Derived.Sort.KeysCollected
import Derived.Below
import Derived.Test.YthaalhigmihijabRows
import Derived.Test.YthaalhigmihijabFR
import Derived.Deep.QuietTactic
import Derived.BigQuiet
import Derived.Lib.Hide
import Derived.Test.YthaalhigmihijabShelf
import Derived.Deep.RegionLaw
import Derived.Deep.RegionHeld3
namespace Go.Proofs.Ythaalhigmihijab

abbrev Nm := List UInt8
abbrev Dir := List (Nm × Nat)
def dget (l : Dir) (n : Nm) : Option Nat := (l.find? fun p => p.1 == n).map (·.2)
def ddel (l : Dir) (n : Nm) : Dir := l.filter fun p => !(p.1 == n)
def dins (x : Nm × Nat) : Dir → Dir
  | [] => [x]
  | y :: r => if bytesBefore x.1 y.1 then x :: y :: r else y :: dins x r
def dput (l : Dir) (n : Nm) (a : Nat) : Dir := dins (n, a) (ddel l n)
def mapD (f : Nat → Nat) (l : Dir) : Dir := l.map fun p => (p.1, f p.2)

theorem mapD_get (f : Nat → Nat) (l : Dir) (n : Nm) : dget (mapD f l) n = (dget l n).map f := by
  unfold dget mapD
  rw [List.find?_map]
  simp only [Function.comp_def, Option.map_map]
theorem mapD_del (f : Nat → Nat) (l : Dir) (n : Nm) : ddel (mapD f l) n = mapD f (ddel l n) := by
  unfold ddel mapD
  rw [List.filter_map]
  rfl
theorem mapD_ins (f : Nat → Nat) (x : Nm × Nat) : ∀ l : Dir, dins (x.1, f x.2) (mapD f l) = mapD f (dins x l)
  | [] => rfl
  | y :: r => by
    have ih := mapD_ins f x r
    unfold mapD at *
    simp only [List.map_cons, dins]
    split
    · simp
    · simp [ih]
theorem mapD_put (f : Nat → Nat) (l : Dir) (n : Nm) (a : Nat) : dput (mapD f l) n (f a) = mapD f (dput l n a) := by
  unfold dput
  rw [mapD_del, ← mapD_ins]
theorem mapD_names (f : Nat → Nat) (l : Dir) : (mapD f l).map (·.1) = l.map (·.1) := by
  unfold mapD
  rw [List.map_map]
  rfl
theorem mem_dins {x p : Nm × Nat} : ∀ {l : Dir}, p ∈ dins x l ↔ p = x ∨ p ∈ l
  | [] => by simp [dins]
  | y :: r => by
    have ih := mem_dins (x := x) (p := p) (l := r)
    unfold dins
    split
    · simp
    · simp only [List.mem_cons, ih]
      constructor
      · rintro (h | h | h)
        · exact .inr (.inl h)
        · exact .inl h
        · exact .inr (.inr h)
      · rintro (h | h | h)
        · exact .inr (.inl h)
        · exact .inl h
        · exact .inr (.inr h)
theorem mem_ddel {p : Nm × Nat} {l : Dir} {n : Nm} : p ∈ ddel l n ↔ p ∈ l ∧ p.1 ≠ n := by
  unfold ddel
  simp
theorem mem_dput {p : Nm × Nat} {l : Dir} {n : Nm} {a : Nat} : p ∈ dput l n a ↔ p = (n, a) ∨ (p ∈ l ∧ p.1 ≠ n) := by
  unfold dput
  rw [mem_dins, mem_ddel]
theorem length_dins (x : Nm × Nat) : ∀ l : Dir, (dins x l).length = l.length + 1
  | [] => rfl
  | y :: r => by
    unfold dins
    split
    · rfl
    · simp [length_dins x r]
theorem length_ddel (l : Dir) (n : Nm) : (ddel l n).length ≤ l.length := List.length_filter_le _ _
theorem length_dput (l : Dir) (n : Nm) (a : Nat) : (dput l n a).length ≤ l.length + 1 := by
  unfold dput
  rw [length_dins]
  have := length_ddel l n
  omega
theorem mem_of_dget {l : Dir} {n : Nm} {a : Nat} (h : dget l n = some a) : (n, a) ∈ l := by
  unfold dget at h
  cases hf : l.find? (fun p => p.1 == n) with
  | none => rw [hf] at h; cases h
  | some p =>
    rw [hf] at h
    have h1 := List.mem_of_find?_eq_some hf
    have h2 := List.find?_some hf
    simp at h h2
    obtain ⟨x, y⟩ := p
    simp at h h2
    subst h
    subst h2
    exact h1

/-- Rising by the names. -/
def Rise (l : Dir) : Prop := l.Pairwise fun p q => bytesBefore p.1 q.1 = true
theorem rise_nil : Rise [] := List.Pairwise.nil
theorem Rise.del {l : Dir} (h : Rise l) (n : Nm) : Rise (ddel l n) := h.filter _
theorem rise_ins {x : Nm × Nat} : ∀ {l : Dir}, Rise l → (∀ p ∈ l, p.1 ≠ x.1) → Rise (dins x l)
  | [], _, _ => List.pairwise_singleton _ _
  | y :: r, h, hne => by
    have h1 := List.pairwise_cons.1 h
    unfold dins
    split
    · rename_i hb
      refine List.pairwise_cons.2 ⟨fun q hq => ?_, h⟩
      rcases List.mem_cons.1 hq with rfl | hq
      · exact hb
      · exact WideShapes.bytes_trans _ _ _ hb (h1.1 q hq)
    · rename_i hb
      have hyx : bytesBefore y.1 x.1 = true := by
        rcases WideAt.bytes_total y.1 x.1 (hne y (by simp)) with h' | h'
        · exact h'
        · exact absurd h' hb
      refine List.pairwise_cons.2 ⟨fun q hq => ?_, rise_ins h1.2 (fun p hp => hne p (by simp [hp]))⟩
      rcases mem_dins.1 hq with rfl | hq
      · exact hyx
      · exact h1.1 q hq
theorem Rise.put {l : Dir} (h : Rise l) (n : Nm) (a : Nat) : Rise (dput l n a) :=
  rise_ins (h.del n) (fun _ hp => (mem_ddel.1 hp).2)
theorem rise_map {f : Nat → Nat} {l : Dir} (h : Rise l) : Rise (mapD f l) := by
  unfold Rise mapD
  rw [List.pairwise_map]
  exact h

/-- Something done to a directory. -/
structure Chg where
  src : Nm
  dst : Nm
  made : Option Nat
def Chg.file (c : Chg) (d : Dir) : Option Nat := if c.src = [] then c.made else dget d c.src
def Chg.less (c : Chg) (d : Dir) : Dir := if c.src = [] then d else ddel d c.src
def Chg.run (c : Chg) (d : Dir) : Dir :=
  if c.dst = [] then c.less d else match c.file d with | some a => dput (c.less d) c.dst a | none => c.less d
theorem Chg.run_put (c : Chg) (d : Dir) (hd : c.dst ≠ []) {a : Nat} (h : c.file d = some a) : c.run d = dput (c.less d) c.dst a := by
  unfold Chg.run
  rw [if_neg hd, h]
/-- It names a file that is there. -/
def Chg.able (c : Chg) (d : Dir) : Prop := c.dst = [] ∨ (c.file d).isSome = true
def redo (d : Dir) (l : List Chg) : Dir := l.foldl (fun d c => c.run d) d
def able : Dir → List Chg → Prop
  | _, [] => True
  | d, c :: l => c.able d ∧ able (c.run d) l
def Chg.map (f : Nat → Nat) (c : Chg) : Chg := ⟨c.src, c.dst, c.made.map f⟩
theorem Chg.map_file (f : Nat → Nat) (c : Chg) (d : Dir) : (c.map f).file (mapD f d) = (c.file d).map f := by
  unfold Chg.file Chg.map
  simp only
  split
  · rfl
  · exact mapD_get f d c.src
theorem Chg.map_less (f : Nat → Nat) (c : Chg) (d : Dir) : (c.map f).less (mapD f d) = mapD f (c.less d) := by
  unfold Chg.less Chg.map
  simp only
  split
  · rfl
  · exact mapD_del f d c.src
theorem Chg.map_run (f : Nat → Nat) (c : Chg) (d : Dir) : (c.map f).run (mapD f d) = mapD f (c.run d) := by
  unfold Chg.run
  rw [Chg.map_file, Chg.map_less]
  show (if c.dst = [] then _ else _) = _
  split
  · rfl
  · cases c.file d with
    | none => rfl
    | some a => exact mapD_put f _ _ a
theorem redo_map (f : Nat → Nat) : ∀ (l : List Chg) (d : Dir), redo (mapD f d) (l.map (Chg.map f)) = mapD f (redo d l)
  | [], _ => rfl
  | c :: l, d => by
    show redo ((c.map f).run (mapD f d)) (l.map (Chg.map f)) = _
    rw [Chg.map_run, redo_map f l]
    rfl
theorem redo_snoc (d : Dir) (l : List Chg) (c : Chg) : redo d (l ++ [c]) = c.run (redo d l) := by
  unfold redo
  rw [List.foldl_append]
  rfl
theorem able_snoc : ∀ (l : List Chg) (d : Dir) (c : Chg), able d (l ++ [c]) ↔ able d l ∧ c.able (redo d l)
  | [], d, c => by simp [able, redo]
  | x :: l, d, c => by
    show (x.able d ∧ able (x.run d) (l ++ [c])) ↔ _
    rw [able_snoc l (x.run d) c]
    show _ ↔ (x.able d ∧ able (x.run d) l) ∧ c.able (redo (x.run d) l)
    rw [and_assoc]
theorem able_take : ∀ (l : List Chg) (d : Dir) (k : Nat), able d l → able d (l.take k)
  | [], _, k, _ => by simp [able]
  | x :: l, d, 0, _ => trivial
  | x :: l, d, k + 1, h => ⟨h.1, able_take l _ k h.2⟩
theorem Chg.rise {c : Chg} {d : Dir} (h : Rise d) : Rise (c.run d) := by
  have h1 : Rise (c.less d) := by
    unfold Chg.less
    split
    · exact h
    · exact h.del _
  unfold Chg.run
  split
  · exact h1
  · split
    · exact h1.put _ _
    · exact h1
theorem redo_rise : ∀ (l : List Chg) (d : Dir), Rise d → Rise (redo d l)
  | [], _, h => h
  | c :: l, d, h => redo_rise l (c.run d) (Chg.rise h)
/-- What holds of every entry of a directory, and of what is made. -/
theorem Chg.run_mem {Q : Nm × Nat → Prop} {c : Chg} {d : Dir} (hd : ∀ p ∈ d, Q p) (hc : ∀ a, c.dst ≠ [] → c.file d = some a → Q (c.dst, a)) : ∀ p ∈ c.run d, Q p := by
  have h1 : ∀ p ∈ c.less d, Q p := by
    unfold Chg.less
    split
    · exact hd
    · exact fun p hp => hd p (mem_ddel.1 hp).1
  unfold Chg.run
  split
  · exact h1
  · rename_i hne
    split
    · rename_i a ha
      intro p hp
      rcases mem_dput.1 hp with rfl | hp
      · exact hc a hne ha
      · exact h1 p hp.1
    · exact h1

/-- A file: its bytes, and how many of them are synced. -/
structure Fil where
  b : List UInt8
  syn : Nat
/-- No file. -/
def nofil : Fil := ⟨[], 0⟩
/-- A state of files. -/
structure St where
  made : Bool
  on : Bool
  room : Int
  steps : Int
  fuse : Int
  bad : Int
  now : Dir
  last : Dir
  pend : List Chg
  files : List Fil

def St.new (room : Int) : St := ⟨true, true, room, 0, -1, -1, [], [], [], []⟩
def tick (c : Int) : Int := if c < 0 then c else c - 1
def over (c : Int) : Bool := !decide (c < 0) && decide (c - 1 < 0)
def St.begun (s : St) : St := { s with steps := s.steps + 1, fuse := tick s.fuse, on := !over s.fuse }
def St.size (s : St) (i : Nat) : Nat := (s.files.getD i nofil).b.length
def used (files : List Fil) (d : Dir) : Nat := (d.map fun p => (files.getD p.2 nofil).b.length).sum
def isNm (n : Nm) : Bool := decide (1 ≤ n.length) && decide (n.length ≤ 20)
def St.doing (s : St) (c : Chg) : St := { s with now := c.run s.now, pend := s.pend ++ [c] }
def wr (s : St) (act : St → St × Int) : St × Int :=
  if s.on then (let r := act s.begun; (r.1, if s.begun.on then r.2 else 14)) else (s, 14)
def St.bads (s : St) : St := { s with bad := tick s.bad }
def sy (s : St) (act : St → St × Int) : St × Int :=
  if s.on then (if s.begun.on then (if over s.bad then (s.begun.bads, 16) else act s.begun.bads) else (s.begun.bads, 14)) else (s, 14)
def St.more (s : St) : St := { s with files := s.files ++ [⟨[], 0⟩] }
def actCreate (n : Nm) (s : St) : St × Int :=
  if isNm n then (if (dget s.now n).isSome then (s, 8) else (s.more.doing ⟨[], n, some s.files.length⟩, 0)) else (s, 1)
def actAppend (n : Nm) (data : List UInt8) (s : St) : St × Int :=
  match dget s.now n with
  | none => (s, 7)
  | some i => if 0 < s.room ∧ s.room - used s.files s.now < data.length then (s, 10)
    else ({ s with files := s.files.set i ⟨(s.files.getD i nofil).b ++ data, (s.files.getD i nofil).syn⟩ }, 0)
def actSync (n : Nm) (s : St) : St × Int :=
  match dget s.now n with
  | none => (s, 7)
  | some i => ({ s with files := s.files.set i ⟨(s.files.getD i nofil).b, (s.files.getD i nofil).b.length⟩ }, 0)
def St.settle (s : St) : St := { s with last := s.now, pend := [] }
def actRename (a b : Nm) (s : St) : St × Int :=
  if (dget s.now a).isSome then (if isNm b then (if a = b then (s, 0) else (s.doing ⟨a, b, none⟩, 0)) else (s, 1)) else (s, 7)
def actRemove (n : Nm) (s : St) : St × Int := if (dget s.now n).isSome then (s.doing ⟨n, [], none⟩, 0) else (s, 7)
def St.create (s : St) (n : Nm) : St × Int := wr s (actCreate n)
def St.append (s : St) (n : Nm) (data : List UInt8) : St × Int := wr s (actAppend n data)
def St.sync (s : St) (n : Nm) : St × Int := sy s (actSync n)
def St.syncDir (s : St) : St × Int := sy s fun s => (s.settle, 0)
def St.rename (s : St) (a b : Nm) : St × Int := wr s (actRename a b)
def St.remove (s : St) (n : Nm) : St × Int := wr s (actRemove n)
def St.read (s : St) (n : Nm) : List UInt8 × Int :=
  if s.on then (match dget s.now n with | none => ([], 7) | some i => ((s.files.getD i nofil).b, 0)) else ([], 14)
def St.names (s : St) : List Nm := if s.on then s.now.map (·.1) else []
/-- x modulo n, from 0 on. -/
def modn (x : Int) (n : Nat) : Nat := (x % (n : Int)).toNat
def Fil.cut (f : Fil) (keep : Int) : Fil := ⟨f.b.take (f.syn + modn keep (f.b.length - f.syn + 1)), f.syn + modn keep (f.b.length - f.syn + 1)⟩
def cuts (files : List Fil) : Dir → List Int → List Fil
  | [], _ => files
  | p :: d, keep => cuts (files.set p.2 ((files.getD p.2 nofil).cut (keep.headD 0))) d keep.tail
def St.crash (s : St) (dir : Int) (keep : List Int) : St :=
  let d := redo s.last (s.pend.take (modn dir (s.pend.length + 1)))
  { s with on := false, fuse := -1, bad := -1, now := d, last := d, pend := [], files := cuts s.files d keep }
def St.restore (s : St) : St := { s with on := s.made }
end Go.Proofs.Ythaalhigmihijab

namespace Go.Proofs.Ythaalhigmihijab
open Go.Maps (Keyed)

def pElem : Value → Option (DataW Unit × List MemPlace)
  | .pointer none => some (.nil, [])
  | .pointer (some ⟨b, 0, none⟩) => some (.lit (.int .i64 b), [])
  | _ => none
def pAt : Option Nat → Value
  | none => .pointer none
  | some b => .pointer (some ⟨b, 0, none⟩)
theorem pElem_some (b : Nat) : pElem (.pointer (some ⟨b, 0, none⟩)) = some (.lit (.int .i64 b), []) := rfl
theorem pElem_inv {v : Value} {y : DataW Unit × List MemPlace} (h : pElem v = some y) : (v = .pointer none ∧ y = (.nil, [])) ∨ ∃ b : Nat, v = .pointer (some ⟨b, 0, none⟩) ∧ y = (.lit (.int .i64 b), []) := by
  unfold pElem at h
  split at h
  · exact .inl ⟨rfl, by simpa using h.symm⟩
  · rename_i b
    exact .inr ⟨b, rfl, by simpa using h.symm⟩
  · cases h
def encD (l : Dir) : List (Lit × DataW Unit) := l.map fun p => (.string p.1, .lit (.int .i64 p.2))
theorem encD_length (l : Dir) : (encD l).length = l.length := by unfold encD; simp
theorem encD_del (l : Dir) (n : Nm) : (DataW.map (encD l)).del (.string n) = .map (encD (ddel l n)) := by
  rw [DataW.del_eq]
  unfold ChangeMaps.delKey encD ddel
  rw [List.filter_map]
  congr 1
theorem encD_ins (x : Nm × Nat) : ∀ l : Dir, DataW.insert (.string x.1, .lit (.int .i64 x.2)) (encD l) = encD (dins x l)
  | [] => rfl
  | y :: r => by
    have ih := encD_ins x r
    unfold encD at *
    simp only [List.map_cons, DataW.insert, dins]
    show (if bytesBefore x.1 y.1 = true then _ else _) = _
    split
    · rfl
    · rw [ih]; rfl
theorem encD_put (l : Dir) (n : Nm) (a : Nat) : (DataW.map (encD l)).put (.string n) (.lit (.int .i64 a)) = .map (encD (dput l n a)) := by
  have h := encD_del l n
  rw [DataW.del_eq] at h
  rw [DataW.put_eq]
  unfold ChangeMaps.putKey dput
  rw [← encD_ins]
  have h' : List.filter (ChangeMaps.notKey (.string n)) (encD l) = encD (ddel l n) := by
    simpa [ChangeMaps.delKey] using h
  rw [h']
theorem encD_at (l : Dir) (n : Nm) (z : DataW Unit) : (DataW.map (encD l)).atKey (.string n) z = match dget l n with | some a => .lit (.int .i64 a) | none => z := by
  unfold DataW.atKey encD dget
  simp only
  rw [List.find?_map]
  have : ((fun p : Lit × DataW Unit => p.1.sameKey (.string n)) ∘ fun p : Nm × Nat => ((.string p.1, .lit (.int .i64 p.2)) : Lit × DataW Unit)) = fun p => p.1 == n := by
    funext p
    rfl
  rw [this]
  cases l.find? (fun p => p.1 == n) <;> rfl
theorem encD_has (l : Dir) (n : Nm) : Maps.has (DataW.map (encD l)) (.string n) = (dget l n).isSome := by
  unfold Maps.has encD dget
  simp only [List.any_map]
  rw [Option.isSome_map, List.isSome_find?]
  rfl
theorem encD_keys (l : Dir) : strKeys (DataW.map (encD l)) = l.map (·.1) := by
  unfold strKeys encD
  simp only
  rw [List.map_map]
  rfl
theorem encD_rise {l : Dir} (h : Maps.Canon (DataW.map (encD l))) : Rise l := by
  obtain ⟨es, he, hp, -⟩ := h
  cases he
  unfold encD at hp
  rw [List.pairwise_map] at hp
  exact hp

section
variable {P : Program} {k e t : TypeId} {w : World} {b : Nat} {l : Dir}
/-- Block b is a directory. -/
def OwnsDir (P : Program) (k : TypeId) (w : World) (b : Nat) (l : Dir) : Prop := w.ownsMap P k pElem b l.length (.map (encD l))

theorem ownsDir_of {n : Nat} (h : w.ownsMap P k pElem b n (.map (encD l))) : OwnsDir P k w b l := by
  obtain ⟨es, clock, hb, F, hs, hD⟩ := h
  refine ⟨es, clock, hb, F, ?_, hD⟩
  have h1 := DataW.map.inj hD
  have h2 := congrArg List.length h1
  rw [length_sorted, encD_length] at h2
  simp at h2
  omega
theorem OwnsDir.lt (h : OwnsDir P k w b l) : b < w.heap.size := World.ownsMap.lt h
theorem OwnsDir.kept {w' : World} (h : OwnsDir P k w b l) (hb : w'.heap[b]? = w.heap[b]?) : OwnsDir P k w' b l := by
  obtain ⟨es, clock, h1, F, hs, hD⟩ := h
  exact ⟨es, clock, hb.trans h1, F, hs, hD⟩
theorem OwnsDir.rise (h : OwnsDir P k w b l) (K : Keyed P k) : Rise l := encD_rise (World.ownsMap.canon h K)
theorem OwnsDir.look (h : OwnsDir P k w b l) (hk : P.underlying k = some .string) (ht : P.underlying t = some (.map k e)) (hz : ∀ w, (zeroValue e).run P w = .ok (.pointer none) w) (s : ByteArray) (hs : s.size ≤ maxLen) :
    (Instr.lookup t (.map (some b)) (.string s) false).run P w = .ok (pAt (dget l s.data.toList)) w := by
  obtain ⟨v, ps, hrun, hv⟩ := World.ownsMap.lookup h (Maps.string_keyed hk) ht (hz w) (zd := .nil) (zp := []) rfl (WideMaps.keyOf_string_mk hk hs)
  rw [encD_at] at hv
  rw [hrun]
  congr 1
  rcases pElem_inv hv with ⟨rfl, hy⟩ | ⟨c, rfl, hy⟩
  · cases hd : dget l s.data.toList with
    | none => rfl
    | some a => rw [hd] at hy; simp at hy
  · cases hd : dget l s.data.toList with
    | none => rw [hd] at hy; simp at hy
    | some a =>
      rw [hd] at hy
      simp at hy
      show _ = Value.pointer (some ⟨a, 0, none⟩)
      have : a = c := by omega
      rw [this]
theorem OwnsDir.cloned {b' : Nat} {w' : World} (h : OwnsDir P k w b l) (hb : w'.heap[b']? = w.heap[b]?) : OwnsDir P k w' b' l := by
  obtain ⟨es, clock, h1, F, hs, hD⟩ := h
  exact ⟨es, clock, hb.trans h1, F, hs, hD⟩
end
end Go.Proofs.Ythaalhigmihijab

namespace Go.Proofs.Ythaalhigmihijab
open Go.RowKit

/-- Where the parts of a System lie: itself, its two maps, its pending changes, each file and its bytes. -/
structure Rep where
  p : Nat
  mn : Nat
  ml : Nat
  pv : Value
  fs : List (Nat × Value)
def nofile : Nat × Value := (0, .slice none 0 0)
def Rep.at (r : Rep) (i : Nat) : Nat := (r.fs.getD i nofile).1
def fFoot (x : Nat × Value) : List Nat := x.1 :: (ob x.2).toList
def Rep.rest (r : Rep) : List Nat := (ob r.pv).toList ++ r.fs.flatMap fFoot
def Rep.foot (r : Rep) : List Nat := r.p :: r.mn :: r.ml :: r.rest
def sysCells (r : Rep) (s : St) : Array Value :=
  #[.bool s.made, .bool s.on, .int .i64 s.room, .int .i64 s.steps, .int .i64 s.fuse, .int .i64 s.bad, .map (some r.mn), .map (some r.ml), r.pv]
def chgCells (f : Nat → Nat) (c : Chg) : List Value := [.string ⟨c.src.toArray⟩, .string ⟨c.dst.toArray⟩, pAt (c.made.map f)]
def byteVals (l : List UInt8) : List Value := l.map fun b => Value.int .u8 b.toNat
/-- What a state keeps. -/
structure WF (s : St) : Prop where
  nids : ∀ p ∈ s.now, p.2 < s.files.length
  nnms : ∀ p ∈ s.now, isNm p.1 = true
  ids : ∀ p ∈ s.last, p.2 < s.files.length
  made : ∀ c ∈ s.pend, ∀ i, c.made = some i → i < s.files.length
  nms : ∀ p ∈ s.last, isNm p.1 = true
  cnms : ∀ c ∈ s.pend, (c.src = [] ∨ isNm c.src = true) ∧ (c.dst = [] ∨ isNm c.dst = true)
theorem WF.of {s s' : St} (h : WF s) (e1 : s'.now = s.now) (e2 : s'.last = s.last) (e3 : s'.pend = s.pend) (e4 : s'.files = s.files) : WF s' :=
  ⟨by rw [e1, e4]; exact h.nids, by rw [e1]; exact h.nnms, by rw [e2, e4]; exact h.ids, by rw [e3, e4]; exact h.made, by rw [e2]; exact h.nms, by rw [e3]; exact h.cnms⟩
section
variable {w : World} {r : Rep} {s : St}
theorem Rep.mem_pv (r : Rep) {k : Nat} (h : ob r.pv = some k) : k ∈ r.rest := by simp [Rep.rest, h]
theorem Rep.mem_fs (r : Rep) {i : Nat} {x : Nat × Value} (h : r.fs[i]? = some x) {k : Nat} (hk : k ∈ fFoot x) : k ∈ r.rest := by
  have := List.mem_of_getElem? h
  simp only [Rep.rest, List.mem_append, List.mem_flatMap]
  exact .inr ⟨x, this, hk⟩
end
end Go.Proofs.Ythaalhigmihijab

namespace Go.Proofs.Ythaalhigmihijab
open Go.RowKit

theorem ncell {W : World} {C : Array Value} {t : TypeId} {n j : Nat} {v : Value} (hn : n = W.heap.size) (h : C[j]? = some v) : (W.alloc (.cells C t)).cell? ⟨n, j, none⟩ = some v := by
  subst hn
  have hb : (W.alloc (.cells C t)).heap[W.heap.size]? = some (.cells C t) := by simp [World.alloc, -World.alloc_eq]
  simp only [World.cell?, hb]
  exact h
theorem ocell {W : World} {o : Obj} {n j : Nat} {v : Value} (hn : n < W.heap.size) (h : W.cell? ⟨n, j, none⟩ = some v) : (W.alloc o).cell? ⟨n, j, none⟩ = some v :=
  (((Below.refl W.heap.size W).alloc (Nat.le_refl _) o).cell (p := ⟨n, j, none⟩) hn).trans h
end Go.Proofs.Ythaalhigmihijab

namespace Go.Proofs.Ythaalhigmihijab
open Go.RowKit

theorem tmod_low (n : Int) {b : Int} (hb : 0 < b) : -b < n.tmod b := by
  have h := Int.tmod_lt_of_pos (-n) hb
  rw [Int.neg_tmod] at h
  omega
theorem tmod_modn (n : Int) (b : Nat) (hb : 0 < b) : ((n.tmod (b : Int)) + (b : Int)) % (b : Int) = (modn n b : Int) := by
  have h0 : (0 : Int) < (b : Int) := by omega
  have h1 := Int.emod_nonneg n (show (b : Int) ≠ 0 by omega)
  have h2 := Int.emod_lt_of_pos n h0
  have e : (modn n b : Int) = n % (b : Int) := by unfold modn; omega
  rw [e]
  have h3 := Int.tmod_lt_of_pos n h0
  have h4 := tmod_low n h0
  rw [Int.add_emod_right, Int.tmod_eq_emod]
  split
  · simp
  · rw [Int.sub_emod]
    simp
theorem modn_lt (n : Int) (b : Nat) (hb : 0 < b) : modn n b < b := by
  have h2 := Int.emod_lt_of_pos n (show (0 : Int) < (b : Int) by omega)
  have h1 := Int.emod_nonneg n (show (b : Int) ≠ 0 by omega)
  unfold modn
  omega
theorem cell_set {w : World} {b i j : Nat} {u v : Value} (h : w.cell? ⟨b, j, none⟩ = some v) (hne : i ≠ j) : (w.setCell ⟨b, i, none⟩ u).cell? ⟨b, j, none⟩ = some v :=
  (World.cell?_setCell_other w _ _ u (fun e => hne (by cases e; rfl))).trans h
theorem cell_new {w : World} {b i : Nat} {u v : Value} (h : w.cell? ⟨b, i, none⟩ = some u) : (w.setCell ⟨b, i, none⟩ v).cell? ⟨b, i, none⟩ = some v := World.cell?_setCell_same w _ v h
theorem warm_set {w : World} {b i : Nat} {x : Addr} {u : Value} (h : w.frozen? x = false) : (w.setCell ⟨b, i, none⟩ u).frozen? x = false := (World.frozen?_setCell _ _ _ _).trans h
end Go.Proofs.Ythaalhigmihijab

namespace Go.Proofs.Ythaalhigmihijab
open Go.RowKit

theorem keyS : Maps.Keyed Try.prog 9 := Maps.string_keyed Try.underlying9
abbrev DirAt (w : World) (b : Nat) (l : Dir) : Prop := OwnsDir Try.prog 9 w b l
theorem toList_data (s : ByteArray) : s.toList = s.data.toList := by
  simp [ByteArray.toList_eq]
theorem str_nil {s : ByteArray} (h : s.data.toList = []) : s.toList.isEmpty = true := by rw [toList_data, h]; rfl
theorem str_ne {s : ByteArray} (h : s.data.toList ≠ []) : s.toList.isEmpty = false := by rw [toList_data]; simpa using h
theorem DirAt.stored {w' : World} {b : Nat} {l : Dir} {n : Nm} {a k : Nat} (h : w'.ownsMap Try.prog 9 pElem b k ((DataW.map (encD l)).put (.string n) (.lit (.int .i64 a)))) : DirAt w' b (dput l n a) := by
  rw [encD_put] at h
  exact ownsDir_of h
theorem DirAt.dropped {w' : World} {b : Nat} {l : Dir} {n : Nm} {k : Nat} (h : w'.ownsMap Try.prog 9 pElem b k ((DataW.map (encD l)).del (.string n))) : DirAt w' b (ddel l n) := by
  rw [encD_del] at h
  exact ownsDir_of h
theorem key_str {s : ByteArray} (hs : s.size ≤ maxLen) : keyOf Try.prog 9 (.string s) = some (.string s.data.toList) := WideMaps.keyOf_string_mk Try.underlying9 hs

end Go.Proofs.Ythaalhigmihijab

namespace Go.Proofs.Ythaalhigmihijab
open Go.RowKit

theorem sclone_any (s : ByteArray) (w : World) (h : s.size ≤ 281474976710656) :
    Calls Try.prog 43 #[.string s] w fun e w' => e = .returned (.string s) ∧ Below w.heap.size w w' := by
  go_enter Try.func43, Try.ntmps43
  go_wp2_with (go_at_call 54; refine (Try.stringslite_Clone s _ h).mono ?_; rintro e w' ⟨rfl, hb⟩)
  go_ret
  exact ⟨rfl, hb⟩

theorem mapD_congr {f g : Nat → Nat} {l : Dir} (h : ∀ p ∈ l, f p.2 = g p.2) : mapD f l = mapD g l := by
  unfold mapD
  exact List.map_congr_left fun p hp => by rw [h p hp]
theorem able_map {f : Nat → Nat} {c : Chg} {d : Dir} (h : c.able d) : (c.map f).able (mapD f d) := by
  rcases h with h | h
  · exact .inl h
  · refine .inr ?_
    rw [Chg.map_file, Option.isSome_map]
    exact h
/-- What may be done: a file that is there, and names that may be. -/
structure Chg.fits (c : Chg) (s : St) : Prop where
  able : c.able s.now
  made : ∀ i, c.made = some i → i < s.files.length
  src : c.src = [] ∨ isNm c.src = true
  dst : c.dst = [] ∨ isNm c.dst = true
theorem WF.doing {s : St} {c : Chg} (h : WF s) (hc : c.fits s) : WF (s.doing c) where
  nids := Chg.run_mem (Q := fun p => p.2 < s.files.length) h.nids (fun a _ ha => by
    unfold Chg.file at ha
    split at ha
    · exact hc.made a ha
    · exact h.nids (c.src, a) (mem_of_dget ha))
  nnms := Chg.run_mem (Q := fun p => isNm p.1 = true) h.nnms (fun a hne _ => by
    rcases hc.dst with h' | h'
    · exact absurd h' hne
    · exact h')
  ids := h.ids
  made := fun x hx i hi => by
    rcases List.mem_append.1 hx with hx | hx
    · exact h.made x hx i hi
    · simp at hx
      subst hx
      exact hc.made i hi
  nms := h.nms
  cnms := fun x hx => by
    rcases List.mem_append.1 hx with hx | hx
    · exact h.cnms x hx
    · simp at hx
      subst hx
      exact ⟨hc.src, hc.dst⟩
def Rep.pending (r : Rep) (v : Value) : Rep := { r with pv := v }
theorem foot_pending (r : Rep) (v : Value) (k : Nat) : k ∈ (r.pending v).foot ↔ k = r.p ∨ k = r.mn ∨ k = r.ml ∨ ob v = some k ∨ k ∈ r.fs.flatMap fFoot := by
  simp [Rep.foot, Rep.rest, Rep.pending]
theorem foot_iff (r : Rep) (k : Nat) : k ∈ r.foot ↔ k = r.p ∨ k = r.mn ∨ k = r.ml ∨ ob r.pv = some k ∨ k ∈ r.fs.flatMap fFoot := foot_pending r r.pv k
theorem nodup_pending {r : Rep} (h : r.foot.Nodup) {v : Value} {B : Nat} (hB : ∀ k ∈ r.foot, k < B) (hv : ob v = ob r.pv ∨ ob v = none ∨ ∃ g, ob v = some g ∧ B ≤ g) : (r.pending v).foot.Nodup := by
  rcases hv with hv | hv | ⟨g, hv, hg⟩
  · simpa [Rep.foot, Rep.rest, Rep.pending, hv] using h
  · refine List.Nodup.sublist ?_ h
    simp only [Rep.foot, Rep.rest, Rep.pending, hv]
    simp
  · have h' : (r.p :: r.mn :: r.ml :: r.fs.flatMap fFoot).Nodup := by
      refine List.Nodup.sublist ?_ h
      simp only [Rep.foot, Rep.rest]
      simp
    have hn : g ∉ r.p :: r.mn :: r.ml :: r.fs.flatMap fFoot := by
      intro hm
      have : g ∈ r.foot := by
        rw [foot_iff]
        simp only [List.mem_cons] at hm
        rcases hm with hm | hm | hm | hm
        · exact .inl hm
        · exact .inr (.inl hm)
        · exact .inr (.inr (.inl hm))
        · exact .inr (.inr (.inr (.inr hm)))
      have := hB g this
      omega
    have : (r.pending v).foot.Perm (g :: r.p :: r.mn :: r.ml :: r.fs.flatMap fFoot) := by
      simp only [Rep.foot, Rep.rest, Rep.pending, hv, Option.toList_some]
      exact (List.perm_middle (l₁ := [r.p, r.mn, r.ml])).trans (by simp)
    exact this.nodup_iff.2 (List.nodup_cons.2 ⟨hn, h'⟩)
/-- What lies apart, in words. -/
structure Apart (r : Rep) : Prop where
  pn : r.p ≠ r.mn
  pl : r.p ≠ r.ml
  nl : r.mn ≠ r.ml
  pv : ∀ k, ob r.pv = some k → k ≠ r.p ∧ k ≠ r.mn ∧ k ≠ r.ml ∧ k ∉ r.fs.flatMap fFoot
  fs : ∀ k ∈ r.fs.flatMap fFoot, k ≠ r.p ∧ k ≠ r.mn ∧ k ≠ r.ml
theorem apart_of {r : Rep} (h : r.foot.Nodup) : Apart r := by
  obtain ⟨h1, h⟩ := List.nodup_cons.1 h
  obtain ⟨h2, h⟩ := List.nodup_cons.1 h
  obtain ⟨h3, h⟩ := List.nodup_cons.1 h
  simp only [List.mem_cons, not_or, Rep.rest, List.mem_append, Option.mem_toList] at h1 h2 h3
  refine ⟨h1.1, h1.2.1, h2.1, fun k hk => ⟨fun e => h1.2.2.1 (e ▸ hk), fun e => h2.2.1 (e ▸ hk), fun e => h3.1 (e ▸ hk), fun hm => ?_⟩, fun k hk => ⟨fun e => h1.2.2.2 (e ▸ hk), fun e => h2.2.2 (e ▸ hk), fun e => h3.2 (e ▸ hk)⟩⟩
  exact (List.nodup_append.1 h).2.2 k (by simp [hk]) k hm rfl
end Go.Proofs.Ythaalhigmihijab

namespace Go.Proofs.Ythaalhigmihijab
open Go.RowKit

theorem one_chg {a b : ByteArray} {o : Option Nat} : ∀ u ∈ [Value.string a, Value.string b, pAt o], u.oneCell' = true := by
  intro u hu
  simp at hu
  rcases hu with rfl | rfl | rfl
  · rfl
  · rfl
  · cases o <;> rfl
end Go.Proofs.Ythaalhigmihijab

namespace Go.Proofs.Ythaalhigmihijab
open Go.RowKit

end Go.Proofs.Ythaalhigmihijab
