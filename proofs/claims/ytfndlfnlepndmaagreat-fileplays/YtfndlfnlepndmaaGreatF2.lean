/- Joined: FM FD FS NC FA FC FO FP FQ. -/
import Derived.WideAt
import Derived.WideShapes
import Derived.Maps.OwnSet
import Derived.Maps.OwnOps
import Derived.Maps.Ext
import Derived.Maps.RangeWalk
import Derived.Sort.KeysCollected
import Derived.Below
import Derived.Test.YtfndlfnlepndmaaGreatRows
import Derived.Test.YtfndlfnlepndmaaGreatFR
import Derived.Deep.QuietTactic
import Derived.BigQuiet
import Derived.Lib.Hide
import Derived.Test.YtfndlfnlepndmaaGreatShelf
import Derived.Deep.RegionLaw
import Derived.Deep.RegionHeld3
namespace Go.Proofs.YtfndlfnlepndmaaGreat

abbrev Nm := List UInt8
abbrev Dir := List (Nm × Nat)
def dget (l : Dir) (n : Nm) : Option Nat := (l.find? fun p => p.1 == n).map (·.2)
def ddel (l : Dir) (n : Nm) : Dir := l.filter fun p => !(p.1 == n)
def dins (x : Nm × Nat) : Dir → Dir
  | [] => [x]
  | y :: r => if bytesBefore x.1 y.1 then x :: y :: r else y :: dins x r
def dput (l : Dir) (n : Nm) (a : Nat) : Dir := dins (n, a) (ddel l n)
def mapD (f : Nat → Nat) (l : Dir) : Dir := l.map fun p => (p.1, f p.2)

theorem mapD_get (f : Nat → Nat) (l : Dir) (n : Nm) : dget (mapD f l) n = (dget l n).map f := by
  unfold dget mapD
  rw [List.find?_map]
  simp only [Function.comp_def, Option.map_map]
theorem mapD_del (f : Nat → Nat) (l : Dir) (n : Nm) : ddel (mapD f l) n = mapD f (ddel l n) := by
  unfold ddel mapD
  rw [List.filter_map]
  rfl
theorem mapD_ins (f : Nat → Nat) (x : Nm × Nat) : ∀ l : Dir, dins (x.1, f x.2) (mapD f l) = mapD f (dins x l)
  | [] => rfl
  | y :: r => by
    have ih := mapD_ins f x r
    unfold mapD at *
    simp only [List.map_cons, dins]
    split
    · simp
    · simp [ih]
theorem mapD_put (f : Nat → Nat) (l : Dir) (n : Nm) (a : Nat) : dput (mapD f l) n (f a) = mapD f (dput l n a) := by
  unfold dput
  rw [mapD_del, ← mapD_ins]
theorem mapD_names (f : Nat → Nat) (l : Dir) : (mapD f l).map (·.1) = l.map (·.1) := by
  unfold mapD
  rw [List.map_map]
  rfl
theorem mem_dins {x p : Nm × Nat} : ∀ {l : Dir}, p ∈ dins x l ↔ p = x ∨ p ∈ l
  | [] => by simp [dins]
  | y :: r => by
    have ih := mem_dins (x := x) (p := p) (l := r)
    unfold dins
    split
    · simp
    · simp only [List.mem_cons, ih]
      constructor
      · rintro (h | h | h)
        · exact .inr (.inl h)
        · exact .inl h
        · exact .inr (.inr h)
      · rintro (h | h | h)
        · exact .inr (.inl h)
        · exact .inl h
        · exact .inr (.inr h)
theorem mem_ddel {p : Nm × Nat} {l : Dir} {n : Nm} : p ∈ ddel l n ↔ p ∈ l ∧ p.1 ≠ n := by
  unfold ddel
  simp
theorem mem_dput {p : Nm × Nat} {l : Dir} {n : Nm} {a : Nat} : p ∈ dput l n a ↔ p = (n, a) ∨ (p ∈ l ∧ p.1 ≠ n) := by
  unfold dput
  rw [mem_dins, mem_ddel]
theorem length_dins (x : Nm × Nat) : ∀ l : Dir, (dins x l).length = l.length + 1
  | [] => rfl
  | y :: r => by
    unfold dins
    split
    · rfl
    · simp [length_dins x r]
theorem length_ddel (l : Dir) (n : Nm) : (ddel l n).length ≤ l.length := List.length_filter_le _ _
theorem length_dput (l : Dir) (n : Nm) (a : Nat) : (dput l n a).length ≤ l.length + 1 := by
  unfold dput
  rw [length_dins]
  have := length_ddel l n
  omega
theorem mem_of_dget {l : Dir} {n : Nm} {a : Nat} (h : dget l n = some a) : (n, a) ∈ l := by
  unfold dget at h
  cases hf : l.find? (fun p => p.1 == n) with
  | none => rw [hf] at h; cases h
  | some p =>
    rw [hf] at h
    have h1 := List.mem_of_find?_eq_some hf
    have h2 := List.find?_some hf
    simp at h h2
    obtain ⟨x, y⟩ := p
    simp at h h2
    subst h
    subst h2
    exact h1

/-- Rising by the names. -/
def Rise (l : Dir) : Prop := l.Pairwise fun p q => bytesBefore p.1 q.1 = true
theorem rise_nil : Rise [] := List.Pairwise.nil
theorem Rise.del {l : Dir} (h : Rise l) (n : Nm) : Rise (ddel l n) := h.filter _
theorem rise_ins {x : Nm × Nat} : ∀ {l : Dir}, Rise l → (∀ p ∈ l, p.1 ≠ x.1) → Rise (dins x l)
  | [], _, _ => List.pairwise_singleton _ _
  | y :: r, h, hne => by
    have h1 := List.pairwise_cons.1 h
    unfold dins
    split
    · rename_i hb
      refine List.pairwise_cons.2 ⟨fun q hq => ?_, h⟩
      rcases List.mem_cons.1 hq with rfl | hq
      · exact hb
      · exact WideShapes.bytes_trans _ _ _ hb (h1.1 q hq)
    · rename_i hb
      have hyx : bytesBefore y.1 x.1 = true := by
        rcases WideAt.bytes_total y.1 x.1 (hne y (by simp)) with h' | h'
        · exact h'
        · exact absurd h' hb
      refine List.pairwise_cons.2 ⟨fun q hq => ?_, rise_ins h1.2 (fun p hp => hne p (by simp [hp]))⟩
      rcases mem_dins.1 hq with rfl | hq
      · exact hyx
      · exact h1.1 q hq
theorem Rise.put {l : Dir} (h : Rise l) (n : Nm) (a : Nat) : Rise (dput l n a) :=
  rise_ins (h.del n) (fun _ hp => (mem_ddel.1 hp).2)
theorem rise_map {f : Nat → Nat} {l : Dir} (h : Rise l) : Rise (mapD f l) := by
  unfold Rise mapD
  rw [List.pairwise_map]
  exact h

/-- Something done to a directory. -/
structure Chg where
  src : Nm
  dst : Nm
  made : Option Nat
def Chg.file (c : Chg) (d : Dir) : Option Nat := if c.src = [] then c.made else dget d c.src
def Chg.less (c : Chg) (d : Dir) : Dir := if c.src = [] then d else ddel d c.src
def Chg.run (c : Chg) (d : Dir) : Dir :=
  if c.dst = [] then c.less d else match c.file d with | some a => dput (c.less d) c.dst a | none => c.less d
theorem Chg.run_put (c : Chg) (d : Dir) (hd : c.dst ≠ []) {a : Nat} (h : c.file d = some a) : c.run d = dput (c.less d) c.dst a := by
  unfold Chg.run
  rw [if_neg hd, h]
/-- It names a file that is there. -/
def Chg.able (c : Chg) (d : Dir) : Prop := c.dst = [] ∨ (c.file d).isSome = true
def redo (d : Dir) (l : List Chg) : Dir := l.foldl (fun d c => c.run d) d
def able : Dir → List Chg → Prop
  | _, [] => True
  | d, c :: l => c.able d ∧ able (c.run d) l
def Chg.map (f : Nat → Nat) (c : Chg) : Chg := ⟨c.src, c.dst, c.made.map f⟩
theorem Chg.map_file (f : Nat → Nat) (c : Chg) (d : Dir) : (c.map f).file (mapD f d) = (c.file d).map f := by
  unfold Chg.file Chg.map
  simp only
  split
  · rfl
  · exact mapD_get f d c.src
theorem Chg.map_less (f : Nat → Nat) (c : Chg) (d : Dir) : (c.map f).less (mapD f d) = mapD f (c.less d) := by
  unfold Chg.less Chg.map
  simp only
  split
  · rfl
  · exact mapD_del f d c.src
theorem Chg.map_run (f : Nat → Nat) (c : Chg) (d : Dir) : (c.map f).run (mapD f d) = mapD f (c.run d) := by
  unfold Chg.run
  rw [Chg.map_file, Chg.map_less]
  show (if c.dst = [] then _ else _) = _
  split
  · rfl
  · cases c.file d with
    | none => rfl
    | some a => exact mapD_put f _ _ a
theorem redo_map (f : Nat → Nat) : ∀ (l : List Chg) (d : Dir), redo (mapD f d) (l.map (Chg.map f)) = mapD f (redo d l)
  | [], _ => rfl
  | c :: l, d => by
    show redo ((c.map f).run (mapD f d)) (l.map (Chg.map f)) = _
    rw [Chg.map_run, redo_map f l]
    rfl
theorem redo_snoc (d : Dir) (l : List Chg) (c : Chg) : redo d (l ++ [c]) = c.run (redo d l) := by
  unfold redo
  rw [List.foldl_append]
  rfl
theorem able_snoc : ∀ (l : List Chg) (d : Dir) (c : Chg), able d (l ++ [c]) ↔ able d l ∧ c.able (redo d l)
  | [], d, c => by simp [able, redo]
  | x :: l, d, c => by
    show (x.able d ∧ able (x.run d) (l ++ [c])) ↔ _
    rw [able_snoc l (x.run d) c]
    show _ ↔ (x.able d ∧ able (x.run d) l) ∧ c.able (redo (x.run d) l)
    rw [and_assoc]
theorem able_take : ∀ (l : List Chg) (d : Dir) (k : Nat), able d l → able d (l.take k)
  | [], _, k, _ => by simp [able]
  | x :: l, d, 0, _ => trivial
  | x :: l, d, k + 1, h => ⟨h.1, able_take l _ k h.2⟩
theorem Chg.rise {c : Chg} {d : Dir} (h : Rise d) : Rise (c.run d) := by
  have h1 : Rise (c.less d) := by
    unfold Chg.less
    split
    · exact h
    · exact h.del _
  unfold Chg.run
  split
  · exact h1
  · split
    · exact h1.put _ _
    · exact h1
theorem redo_rise : ∀ (l : List Chg) (d : Dir), Rise d → Rise (redo d l)
  | [], _, h => h
  | c :: l, d, h => redo_rise l (c.run d) (Chg.rise h)
/-- What holds of every entry of a directory, and of what is made. -/
theorem Chg.run_mem {Q : Nm × Nat → Prop} {c : Chg} {d : Dir} (hd : ∀ p ∈ d, Q p) (hc : ∀ a, c.dst ≠ [] → c.file d = some a → Q (c.dst, a)) : ∀ p ∈ c.run d, Q p := by
  have h1 : ∀ p ∈ c.less d, Q p := by
    unfold Chg.less
    split
    · exact hd
    · exact fun p hp => hd p (mem_ddel.1 hp).1
  unfold Chg.run
  split
  · exact h1
  · rename_i hne
    split
    · rename_i a ha
      intro p hp
      rcases mem_dput.1 hp with rfl | hp
      · exact hc a hne ha
      · exact h1 p hp.1
    · exact h1

/-- A file: its bytes, and how many of them are synced. -/
structure Fil where
  b : List UInt8
  syn : Nat
/-- No file. -/
def nofil : Fil := ⟨[], 0⟩
/-- A state of files. -/
structure St where
  made : Bool
  on : Bool
  room : Int
  steps : Int
  fuse : Int
  bad : Int
  now : Dir
  last : Dir
  pend : List Chg
  files : List Fil

def St.new (room : Int) : St := ⟨true, true, room, 0, -1, -1, [], [], [], []⟩
def tick (c : Int) : Int := if c < 0 then c else c - 1
def over (c : Int) : Bool := !decide (c < 0) && decide (c - 1 < 0)
def St.begun (s : St) : St := { s with steps := s.steps + 1, fuse := tick s.fuse, on := !over s.fuse }
def St.size (s : St) (i : Nat) : Nat := (s.files.getD i nofil).b.length
def used (files : List Fil) (d : Dir) : Nat := (d.map fun p => (files.getD p.2 nofil).b.length).sum
def isNm (n : Nm) : Bool := decide (1 ≤ n.length) && decide (n.length ≤ 20)
def St.doing (s : St) (c : Chg) : St := { s with now := c.run s.now, pend := s.pend ++ [c] }
def wr (s : St) (act : St → St × Int) : St × Int :=
  if s.on then (let r := act s.begun; (r.1, if s.begun.on then r.2 else 14)) else (s, 14)
def St.bads (s : St) : St := { s with bad := tick s.bad }
def sy (s : St) (act : St → St × Int) : St × Int :=
  if s.on then (if s.begun.on then (if over s.bad then (s.begun.bads, 16) else act s.begun.bads) else (s.begun.bads, 14)) else (s, 14)
def St.more (s : St) : St := { s with files := s.files ++ [⟨[], 0⟩] }
def actCreate (n : Nm) (s : St) : St × Int :=
  if isNm n then (if (dget s.now n).isSome then (s, 8) else (s.more.doing ⟨[], n, some s.files.length⟩, 0)) else (s, 1)
def actAppend (n : Nm) (data : List UInt8) (s : St) : St × Int :=
  match dget s.now n with
  | none => (s, 7)
  | some i => if 0 < s.room ∧ s.room - used s.files s.now < data.length then (s, 10)
    else ({ s with files := s.files.set i ⟨(s.files.getD i nofil).b ++ data, (s.files.getD i nofil).syn⟩ }, 0)
def actSync (n : Nm) (s : St) : St × Int :=
  match dget s.now n with
  | none => (s, 7)
  | some i => ({ s with files := s.files.set i ⟨(s.files.getD i nofil).b, (s.files.getD i nofil).b.length⟩ }, 0)
def St.settle (s : St) : St := { s with last := s.now, pend := [] }
def actRename (a b : Nm) (s : St) : St × Int :=
  if (dget s.now a).isSome then (if isNm b then (if a = b then (s, 0) else (s.doing ⟨a, b, none⟩, 0)) else (s, 1)) else (s, 7)
def actRemove (n : Nm) (s : St) : St × Int := if (dget s.now n).isSome then (s.doing ⟨n, [], none⟩, 0) else (s, 7)
def St.create (s : St) (n : Nm) : St × Int := wr s (actCreate n)
def St.append (s : St) (n : Nm) (data : List UInt8) : St × Int := wr s (actAppend n data)
def St.sync (s : St) (n : Nm) : St × Int := sy s (actSync n)
def St.syncDir (s : St) : St × Int := sy s fun s => (s.settle, 0)
def St.rename (s : St) (a b : Nm) : St × Int := wr s (actRename a b)
def St.remove (s : St) (n : Nm) : St × Int := wr s (actRemove n)
def St.read (s : St) (n : Nm) : List UInt8 × Int :=
  if s.on then (match dget s.now n with | none => ([], 7) | some i => ((s.files.getD i nofil).b, 0)) else ([], 14)
def St.names (s : St) : List Nm := if s.on then s.now.map (·.1) else []
/-- x modulo n, from 0 on. -/
def modn (x : Int) (n : Nat) : Nat := (x % (n : Int)).toNat
def Fil.cut (f : Fil) (keep : Int) : Fil := ⟨f.b.take (f.syn + modn keep (f.b.length - f.syn + 1)), f.syn + modn keep (f.b.length - f.syn + 1)⟩
def cuts (files : List Fil) : Dir → List Int → List Fil
  | [], _ => files
  | p :: d, keep => cuts (files.set p.2 ((files.getD p.2 nofil).cut (keep.headD 0))) d keep.tail
def St.crash (s : St) (dir : Int) (keep : List Int) : St :=
  let d := redo s.last (s.pend.take (modn dir (s.pend.length + 1)))
  { s with on := false, fuse := -1, bad := -1, now := d, last := d, pend := [], files := cuts s.files d keep }
def St.restore (s : St) : St := { s with on := s.made }
end Go.Proofs.YtfndlfnlepndmaaGreat

namespace Go.Proofs.YtfndlfnlepndmaaGreat
open Go.Maps (Keyed)

def pElem : Value → Option (DataW Unit × List MemPlace)
  | .pointer none => some (.nil, [])
  | .pointer (some ⟨b, 0, none⟩) => some (.lit (.int .i64 b), [])
  | _ => none
def pAt : Option Nat → Value
  | none => .pointer none
  | some b => .pointer (some ⟨b, 0, none⟩)
theorem pElem_some (b : Nat) : pElem (.pointer (some ⟨b, 0, none⟩)) = some (.lit (.int .i64 b), []) := rfl
theorem pElem_inv {v : Value} {y : DataW Unit × List MemPlace} (h : pElem v = some y) : (v = .pointer none ∧ y = (.nil, [])) ∨ ∃ b : Nat, v = .pointer (some ⟨b, 0, none⟩) ∧ y = (.lit (.int .i64 b), []) := by
  unfold pElem at h
  split at h
  · exact .inl ⟨rfl, by simpa using h.symm⟩
  · rename_i b
    exact .inr ⟨b, rfl, by simpa using h.symm⟩
  · cases h
def encD (l : Dir) : List (Lit × DataW Unit) := l.map fun p => (.string p.1, .lit (.int .i64 p.2))
theorem encD_length (l : Dir) : (encD l).length = l.length := by unfold encD; simp
theorem encD_del (l : Dir) (n : Nm) : (DataW.map (encD l)).del (.string n) = .map (encD (ddel l n)) := by
  rw [DataW.del_eq]
  unfold ChangeMaps.delKey encD ddel
  rw [List.filter_map]
  congr 1
theorem encD_ins (x : Nm × Nat) : ∀ l : Dir, DataW.insert (.string x.1, .lit (.int .i64 x.2)) (encD l) = encD (dins x l)
  | [] => rfl
  | y :: r => by
    have ih := encD_ins x r
    unfold encD at *
    simp only [List.map_cons, DataW.insert, dins]
    show (if bytesBefore x.1 y.1 = true then _ else _) = _
    split
    · rfl
    · rw [ih]; rfl
theorem encD_put (l : Dir) (n : Nm) (a : Nat) : (DataW.map (encD l)).put (.string n) (.lit (.int .i64 a)) = .map (encD (dput l n a)) := by
  have h := encD_del l n
  rw [DataW.del_eq] at h
  rw [DataW.put_eq]
  unfold ChangeMaps.putKey dput
  rw [← encD_ins]
  have h' : List.filter (ChangeMaps.notKey (.string n)) (encD l) = encD (ddel l n) := by
    simpa [ChangeMaps.delKey] using h
  rw [h']
theorem encD_at (l : Dir) (n : Nm) (z : DataW Unit) : (DataW.map (encD l)).atKey (.string n) z = match dget l n with | some a => .lit (.int .i64 a) | none => z := by
  unfold DataW.atKey encD dget
  simp only
  rw [List.find?_map]
  have : ((fun p : Lit × DataW Unit => p.1.sameKey (.string n)) ∘ fun p : Nm × Nat => ((.string p.1, .lit (.int .i64 p.2)) : Lit × DataW Unit)) = fun p => p.1 == n := by
    funext p
    rfl
  rw [this]
  cases l.find? (fun p => p.1 == n) <;> rfl
theorem encD_has (l : Dir) (n : Nm) : Maps.has (DataW.map (encD l)) (.string n) = (dget l n).isSome := by
  unfold Maps.has encD dget
  simp only [List.any_map]
  rw [Option.isSome_map, List.isSome_find?]
  rfl
theorem encD_keys (l : Dir) : strKeys (DataW.map (encD l)) = l.map (·.1) := by
  unfold strKeys encD
  simp only
  rw [List.map_map]
  rfl
theorem encD_rise {l : Dir} (h : Maps.Canon (DataW.map (encD l))) : Rise l := by
  obtain ⟨es, he, hp, -⟩ := h
  cases he
  unfold encD at hp
  rw [List.pairwise_map] at hp
  exact hp

section
variable {P : Program} {k e t : TypeId} {w : World} {b : Nat} {l : Dir}
/-- Block b is a directory. -/
def OwnsDir (P : Program) (k : TypeId) (w : World) (b : Nat) (l : Dir) : Prop := w.ownsMap P k pElem b l.length (.map (encD l))

theorem ownsDir_of {n : Nat} (h : w.ownsMap P k pElem b n (.map (encD l))) : OwnsDir P k w b l := by
  obtain ⟨es, clock, hb, F, hs, hD⟩ := h
  refine ⟨es, clock, hb, F, ?_, hD⟩
  have h1 := DataW.map.inj hD
  have h2 := congrArg List.length h1
  rw [length_sorted, encD_length] at h2
  simp at h2
  omega
theorem OwnsDir.lt (h : OwnsDir P k w b l) : b < w.heap.size := World.ownsMap.lt h
theorem OwnsDir.kept {w' : World} (h : OwnsDir P k w b l) (hb : w'.heap[b]? = w.heap[b]?) : OwnsDir P k w' b l := by
  obtain ⟨es, clock, h1, F, hs, hD⟩ := h
  exact ⟨es, clock, hb.trans h1, F, hs, hD⟩
theorem OwnsDir.rise (h : OwnsDir P k w b l) (K : Keyed P k) : Rise l := encD_rise (World.ownsMap.canon h K)
theorem OwnsDir.look (h : OwnsDir P k w b l) (hk : P.underlying k = some .string) (ht : P.underlying t = some (.map k e)) (hz : ∀ w, (zeroValue e).run P w = .ok (.pointer none) w) (s : ByteArray) (hs : s.size ≤ maxLen) :
    (Instr.lookup t (.map (some b)) (.string s) false).run P w = .ok (pAt (dget l s.data.toList)) w := by
  obtain ⟨v, ps, hrun, hv⟩ := World.ownsMap.lookup h (Maps.string_keyed hk) ht (hz w) (zd := .nil) (zp := []) rfl (WideMaps.keyOf_string_mk hk hs)
  rw [encD_at] at hv
  rw [hrun]
  congr 1
  rcases pElem_inv hv with ⟨rfl, hy⟩ | ⟨c, rfl, hy⟩
  · cases hd : dget l s.data.toList with
    | none => rfl
    | some a => rw [hd] at hy; simp at hy
  · cases hd : dget l s.data.toList with
    | none => rw [hd] at hy; simp at hy
    | some a =>
      rw [hd] at hy
      simp at hy
      show _ = Value.pointer (some ⟨a, 0, none⟩)
      have : a = c := by omega
      rw [this]
theorem OwnsDir.cloned {b' : Nat} {w' : World} (h : OwnsDir P k w b l) (hb : w'.heap[b']? = w.heap[b]?) : OwnsDir P k w' b' l := by
  obtain ⟨es, clock, h1, F, hs, hD⟩ := h
  exact ⟨es, clock, hb.trans h1, F, hs, hD⟩
end
end Go.Proofs.YtfndlfnlepndmaaGreat

namespace Go.Proofs.YtfndlfnlepndmaaGreat
open Go.RowKit

/-- Where the parts of a System lie: itself, its two maps, its pending changes, each file and its bytes. -/
structure Rep where
  p : Nat
  mn : Nat
  ml : Nat
  pv : Value
  fs : List (Nat × Value)
def nofile : Nat × Value := (0, .slice none 0 0)
def Rep.at (r : Rep) (i : Nat) : Nat := (r.fs.getD i nofile).1
def fFoot (x : Nat × Value) : List Nat := x.1 :: (ob x.2).toList
def Rep.rest (r : Rep) : List Nat := (ob r.pv).toList ++ r.fs.flatMap fFoot
def Rep.foot (r : Rep) : List Nat := r.p :: r.mn :: r.ml :: r.rest
def sysCells (r : Rep) (s : St) : Array Value :=
  #[.bool s.made, .bool s.on, .int .i64 s.room, .int .i64 s.steps, .int .i64 s.fuse, .int .i64 s.bad, .map (some r.mn), .map (some r.ml), r.pv]
def chgCells (f : Nat → Nat) (c : Chg) : List Value := [.string ⟨c.src.toArray⟩, .string ⟨c.dst.toArray⟩, pAt (c.made.map f)]
def byteVals (l : List UInt8) : List Value := l.map fun b => Value.int .u8 b.toNat
structure FileOk (w : World) (x : Nat × Value) (f : Fil) : Prop where
  cells : w.heap[x.1]? = some (.cells #[x.2, .int .i64 f.syn] 87)
  row : Row w 5 1 x.2 f.b.length (byteVals f.b)
  syn : f.syn ≤ f.b.length
/-- What a state keeps. -/
structure WF (s : St) : Prop where
  nids : ∀ p ∈ s.now, p.2 < s.files.length
  nnms : ∀ p ∈ s.now, isNm p.1 = true
  ids : ∀ p ∈ s.last, p.2 < s.files.length
  made : ∀ c ∈ s.pend, ∀ i, c.made = some i → i < s.files.length
  nms : ∀ p ∈ s.last, isNm p.1 = true
  cnms : ∀ c ∈ s.pend, (c.src = [] ∨ isNm c.src = true) ∧ (c.dst = [] ∨ isNm c.dst = true)
theorem WF.of {s s' : St} (h : WF s) (e1 : s'.now = s.now) (e2 : s'.last = s.last) (e3 : s'.pend = s.pend) (e4 : s'.files = s.files) : WF s' :=
  ⟨by rw [e1, e4]; exact h.nids, by rw [e1]; exact h.nnms, by rw [e2, e4]; exact h.ids, by rw [e3, e4]; exact h.made, by rw [e2]; exact h.nms, by rw [e3]; exact h.cnms⟩
structure Sys (w : World) (r : Rep) (s : St) : Prop where
  cells : w.heap[r.p]? = some (.cells (sysCells r s) 70)
  now : OwnsDir Tryz.prog 9 w r.mn (mapD r.at s.now)
  last : OwnsDir Tryz.prog 9 w r.ml (mapD r.at s.last)
  pend : Row w 80 3 r.pv s.pend.length (s.pend.flatMap (chgCells r.at))
  len : r.fs.length = s.files.length
  file : ∀ (i : Nat) (x : Nat × Value) (f : Fil), r.fs[i]? = some x → s.files[i]? = some f → FileOk w x f
  apart : r.foot.Nodup
  wf : WF s
section
variable {w : World} {r : Rep} {s : St}
theorem Sys.cell (h : Sys w r s) (j : Nat) (v : Value) (hj : (sysCells r s)[j]? = some v) : w.cell? ⟨r.p, j, none⟩ = some v := by
  simp only [World.cell?, h.cells]
  exact hj
theorem Sys.c0 (h : Sys w r s) : w.cell? ⟨r.p, 0, none⟩ = some (.bool s.made) := h.cell 0 _ rfl
theorem Sys.c1 (h : Sys w r s) : w.cell? ⟨r.p, 1, none⟩ = some (.bool s.on) := h.cell 1 _ rfl
theorem Sys.c2 (h : Sys w r s) : w.cell? ⟨r.p, 2, none⟩ = some (.int .i64 s.room) := h.cell 2 _ rfl
theorem Sys.c3 (h : Sys w r s) : w.cell? ⟨r.p, 3, none⟩ = some (.int .i64 s.steps) := h.cell 3 _ rfl
theorem Sys.c4 (h : Sys w r s) : w.cell? ⟨r.p, 4, none⟩ = some (.int .i64 s.fuse) := h.cell 4 _ rfl
theorem Sys.c5 (h : Sys w r s) : w.cell? ⟨r.p, 5, none⟩ = some (.int .i64 s.bad) := h.cell 5 _ rfl
theorem Sys.c6 (h : Sys w r s) : w.cell? ⟨r.p, 6, none⟩ = some (.map (some r.mn)) := h.cell 6 _ rfl
theorem Sys.c7 (h : Sys w r s) : w.cell? ⟨r.p, 7, none⟩ = some (.map (some r.ml)) := h.cell 7 _ rfl
theorem Sys.c8 (h : Sys w r s) : w.cell? ⟨r.p, 8, none⟩ = some r.pv := h.cell 8 _ rfl
theorem Sys.warm (h : Sys w r s) (j : Nat) : w.frozen? ⟨r.p, j, none⟩ = false := by simp [World.frozen?, h.cells]
theorem FileOk.kept {w' : World} {x : Nat × Value} {f : Fil} (h : FileOk w x f) (hk : ∀ k ∈ fFoot x, w'.heap[k]? = w.heap[k]?) : FileOk w' x f :=
  ⟨(hk x.1 (by simp [fFoot])).trans h.cells, h.row.kept (fun k e => hk k (by simp [fFoot, e])), h.syn⟩
theorem Rep.mem_pv (r : Rep) {k : Nat} (h : ob r.pv = some k) : k ∈ r.rest := by simp [Rep.rest, h]
theorem Rep.mem_fs (r : Rep) {i : Nat} {x : Nat × Value} (h : r.fs[i]? = some x) {k : Nat} (hk : k ∈ fFoot x) : k ∈ r.rest := by
  have := List.mem_of_getElem? h
  simp only [Rep.rest, List.mem_append, List.mem_flatMap]
  exact .inr ⟨x, this, hk⟩
theorem Sys.lt (h : Sys w r s) : ∀ k ∈ r.foot, k < w.heap.size := by
  intro k hk
  simp only [Rep.foot, List.mem_cons] at hk
  rcases hk with rfl | rfl | rfl | hk
  · exact (Array.getElem?_eq_some_iff.1 h.cells).1
  · exact h.now.lt
  · exact h.last.lt
  · simp only [Rep.rest, List.mem_append, List.mem_flatMap, Option.mem_toList] at hk
    rcases hk with hk | ⟨x, hx, hk⟩
    · exact h.pend.lt k hk
    · obtain ⟨i, hi⟩ := List.getElem?_of_mem hx
      have hil : i < s.files.length := by
        rw [← h.len]
        exact (List.getElem?_eq_some_iff.1 hi).1
      have hf := h.file i x _ hi (List.getElem?_eq_getElem hil)
      simp only [fFoot, List.mem_cons, Option.mem_toList] at hk
      rcases hk with rfl | hk
      · exact (Array.getElem?_eq_some_iff.1 hf.cells).1
      · exact hf.row.lt k hk
/-- Nothing of it was touched. -/
theorem Sys.kept {w' : World} (h : Sys w r s) (hk : ∀ k ∈ r.foot, w'.heap[k]? = w.heap[k]?) : Sys w' r s where
  cells := (hk _ (by simp [Rep.foot])).trans h.cells
  now := h.now.kept (hk _ (by simp [Rep.foot]))
  last := h.last.kept (hk _ (by simp [Rep.foot]))
  pend := h.pend.kept (fun k e => hk k (by simp [Rep.foot, r.mem_pv e]))
  len := h.len
  file := fun i x f hx hf => (h.file i x f hx hf).kept (fun k hk' => hk k (by simp [Rep.foot, r.mem_fs hx hk']))
  apart := h.apart
  wf := h.wf
theorem Sys.turned {w' : World} {F : List Nat} (h : Sys w r s) (ht : Turn F w w') (hF : ∀ k ∈ r.foot, k ∉ F) : Sys w' r s :=
  h.kept fun k hk => ht.block k (h.lt k hk) (hF k hk)
theorem Sys.below {w' : World} (h : Sys w r s) (hb : Below w.heap.size w w') : Sys w' r s := h.kept fun k hk => hb.block k (h.lt k hk)
/-- Its plain fields alone have turned. -/
theorem Sys.fields {w' : World} {s' : St} (h : Sys w r s) (hc : w'.heap[r.p]? = some (.cells (sysCells r s') 70)) (hk : ∀ k ∈ r.foot, k ≠ r.p → w'.heap[k]? = w.heap[k]?)
    (e1 : s'.now = s.now) (e2 : s'.last = s.last) (e3 : s'.pend = s.pend) (e4 : s'.files = s.files) : Sys w' r s' := by
  have hp := List.nodup_cons.1 h.apart
  have hk' : ∀ k ∈ r.mn :: r.ml :: r.rest, w'.heap[k]? = w.heap[k]? := fun k hm => hk k (List.mem_cons_of_mem _ hm) (fun e => hp.1 (e ▸ hm))
  refine ⟨hc, ?_, ?_, ?_, ?_, ?_, h.apart, ?_⟩
  · rw [e1]; exact h.now.kept (hk' _ (by simp))
  · rw [e2]; exact h.last.kept (hk' _ (by simp))
  · rw [e3]; exact h.pend.kept (fun k e => hk' k (by simp [r.mem_pv e]))
  · rw [e4]; exact h.len
  · rw [e4]; exact fun i x f hx hf => (h.file i x f hx hf).kept (fun k hm => hk' k (by simp [r.mem_fs hx hm]))
  · exact h.wf.of e1 e2 e3 e4
/-- What a call leaves: a System at the same place, and all outside it as it was. -/
def Next (w : World) (r : Rep) (s' : St) (w' : World) : Prop := ∃ r', Sys w' r' s' ∧ r'.p = r.p ∧ Turn r.foot w w' ∧ ∀ k ∈ r'.foot, k ∈ r.foot ∨ w.heap.size ≤ k
theorem Sys.next (h : Sys w r s) : Next w r s w := ⟨r, h, rfl, Turn.refl _ _, fun _ hk => .inl hk⟩
theorem Sys.drew (h : Sys w r s) : Sys w.drew r s := h.kept fun _ _ => rfl
theorem Sys.drewN (h : Sys w r s) (n : Nat) : Sys (w.drewN n) r s := h.kept fun _ _ => rfl
theorem Next.after {w0 w' : World} {r0 : Rep} {s' : St} (h : Next w0 r0 s' w') (ht : Turn r.foot w w0) (hf : ∀ k ∈ r0.foot, k ∈ r.foot ∨ w.heap.size ≤ k) (hp : r0.p = r.p) : Next w r s' w' := by
  obtain ⟨r', h1, h2, h3, h4⟩ := h
  refine ⟨r', h1, h2.trans hp, ht.trans h3 hf, fun x hx => ?_⟩
  rcases h4 x hx with h' | h'
  · exact hf x h'
  · exact .inr (Nat.le_trans ht.size h')
theorem Next.drew0 {w' : World} {s' : St} (h : Next w.drew r s' w') : Next w r s' w' := h.after (Turn.refl _ _).drew (fun _ hk => .inl hk) rfl
theorem Next.then {w' w'' : World} {s' s'' : St} (h : Next w r s' w') (k : ∀ r', Sys w' r' s' → r'.p = r.p → Next w' r' s'' w'') : Next w r s'' w'' := by
  obtain ⟨r', h1, h2, h3, h4⟩ := h
  obtain ⟨r'', k1, k2, k3, k4⟩ := k r' h1 h2
  refine ⟨r'', k1, k2.trans h2, h3.trans k3 h4, fun x hx => ?_⟩
  rcases k4 x hx with h' | h'
  · exact h4 x h'
  · exact .inr (Nat.le_trans h3.size h')
end
end Go.Proofs.YtfndlfnlepndmaaGreat

namespace Go.Proofs.YtfndlfnlepndmaaGreat
open Go.RowKit

theorem ncell {W : World} {C : Array Value} {t : TypeId} {n j : Nat} {v : Value} (hn : n = W.heap.size) (h : C[j]? = some v) : (W.alloc (.cells C t)).cell? ⟨n, j, none⟩ = some v := by
  subst hn
  have hb : (W.alloc (.cells C t)).heap[W.heap.size]? = some (.cells C t) := by simp [World.alloc, -World.alloc_eq]
  simp only [World.cell?, hb]
  exact h
theorem ocell {W : World} {o : Obj} {n j : Nat} {v : Value} (hn : n < W.heap.size) (h : W.cell? ⟨n, j, none⟩ = some v) : (W.alloc o).cell? ⟨n, j, none⟩ = some v :=
  (((Below.refl W.heap.size W).alloc (Nat.le_refl _) o).cell (p := ⟨n, j, none⟩) hn).trans h
end Go.Proofs.YtfndlfnlepndmaaGreat

namespace Go.Proofs.YtfndlfnlepndmaaGreat
open Go.RowKit

theorem on_nil (w : World) : Calls Tryz.prog 52 #[.pointer none] w fun e w' => e = .returned (.bool false) ∧ w = w' := by
  go_enter Tryz.func52, Tryz.ntmps52
  go_wp2
  go_ret
  exact ⟨rfl, rfl⟩
theorem on_at (b : Nat) (x : Bool) (w : World) (h : w.cell? ⟨b, 1, none⟩ = some (.bool x)) : Calls Tryz.prog 52 #[.pointer (some ⟨b, 0, none⟩)] w fun e w' => e = .returned (.bool x) ∧ w = w' := by
  go_enter Tryz.func52, Tryz.ntmps52
  go_wp2
  go_ret
  exact ⟨rfl, rfl⟩
theorem ends_neg (b j : Nat) (c : Int) (w : World) (h : w.cell? ⟨b, j, none⟩ = some (.int .i64 c)) (hc : c < 0) :
    Calls Tryz.prog 157 #[.pointer (some ⟨b, j, none⟩)] w fun e w' => e = .returned (.bool (over c)) ∧ w = w' := by
  have ho : over c = false := by simp [over, hc]
  rw [ho]
  go_enter Tryz.func157, Tryz.ntmps157
  go_wp2
  go_ret
  exact ⟨rfl, rfl⟩
theorem ends_pos (b j : Nat) (c : Int) (w : World) (h : w.cell? ⟨b, j, none⟩ = some (.int .i64 c)) (hf : w.frozen? ⟨b, j, none⟩ = false) (hc : 0 ≤ c) (hc2 : c ≤ 9223372036854775807) :
    Calls Tryz.prog 157 #[.pointer (some ⟨b, j, none⟩)] w fun e w' => e = .returned (.bool (over c)) ∧ w.setCell ⟨b, j, none⟩ (.int .i64 (c - 1)) = w' := by
  have ho : over c = decide (c - 1 < 0) := by simp [over, hc]
  rw [ho]
  go_enter Tryz.func157, Tryz.ntmps157
  go_wp2
  go_ret
  exact ⟨rfl, rfl⟩
theorem tmod_low (n : Int) {b : Int} (hb : 0 < b) : -b < n.tmod b := by
  have h := Int.tmod_lt_of_pos (-n) hb
  rw [Int.neg_tmod] at h
  omega
theorem tmod_modn (n : Int) (b : Nat) (hb : 0 < b) : ((n.tmod (b : Int)) + (b : Int)) % (b : Int) = (modn n b : Int) := by
  have h0 : (0 : Int) < (b : Int) := by omega
  have h1 := Int.emod_nonneg n (show (b : Int) ≠ 0 by omega)
  have h2 := Int.emod_lt_of_pos n h0
  have e : (modn n b : Int) = n % (b : Int) := by unfold modn; omega
  rw [e]
  have h3 := Int.tmod_lt_of_pos n h0
  have h4 := tmod_low n h0
  rw [Int.add_emod_right, Int.tmod_eq_emod]
  split
  · simp
  · rw [Int.sub_emod]
    simp
theorem modn_lt (n : Int) (b : Nat) (hb : 0 < b) : modn n b < b := by
  have h2 := Int.emod_lt_of_pos n (show (0 : Int) < (b : Int) by omega)
  have h1 := Int.emod_nonneg n (show (b : Int) ≠ 0 by omega)
  unfold modn
  omega
set_option maxHeartbeats 400000 in
theorem modulo_any (n : Int) (b : Nat) (w : World) (hb : 0 < b) (hb2 : b ≤ 1000000000000) :
    Calls Tryz.prog 35 #[.int .i64 n, .int .i64 (b : Int)] w fun e w' => e = .returned (.int .i64 (modn n b : Nat)) ∧ w = w' := by
  have h3 := Int.tmod_lt_of_pos n (show (0 : Int) < (b : Int) by omega)
  have h4 := tmod_low n (show (0 : Int) < (b : Int) by omega)
  have H := Lib.hid (tmod_modn n b hb)
  have hz : ((b : Int) == 0) = false := by simp; omega
  go_enter Tryz.func35, Tryz.ntmps35
  go_wp2
  go_ret
  exact ⟨by rw [← H.out]; rfl, rfl⟩
theorem begun_no (b : Nat) (w : World) (h : w.cell? ⟨b, 1, none⟩ = some (.bool false)) : Calls Tryz.prog 119 #[.pointer (some ⟨b, 0, none⟩)] w fun e w' => e = .returned (.bool false) ∧ w = w' := by
  go_enter Tryz.func119, Tryz.ntmps119
  go_wp2_with (go_at_call 52; refine (on_at _ _ _ h).mono ?_; rintro e w1 ⟨rfl, rfl⟩)
  go_ret
  exact ⟨rfl, rfl⟩
theorem begun_nil (w : World) : Calls Tryz.prog 119 #[.pointer none] w fun e w' => e = .returned (.bool false) ∧ w = w' := by
  go_enter Tryz.func119, Tryz.ntmps119
  go_wp2_with (go_at_call 52; refine (on_nil _).mono ?_; rintro e w1 ⟨rfl, rfl⟩)
  go_ret
  exact ⟨rfl, rfl⟩
theorem cell_set {w : World} {b i j : Nat} {u v : Value} (h : w.cell? ⟨b, j, none⟩ = some v) (hne : i ≠ j) : (w.setCell ⟨b, i, none⟩ u).cell? ⟨b, j, none⟩ = some v :=
  (World.cell?_setCell_other w _ _ u (fun e => hne (by cases e; rfl))).trans h
theorem cell_new {w : World} {b i : Nat} {u v : Value} (h : w.cell? ⟨b, i, none⟩ = some u) : (w.setCell ⟨b, i, none⟩ v).cell? ⟨b, i, none⟩ = some v := World.cell?_setCell_same w _ v h
theorem warm_set {w : World} {b i : Nat} {x : Addr} {u : Value} (h : w.frozen? x = false) : (w.setCell ⟨b, i, none⟩ u).frozen? x = false := (World.frozen?_setCell _ _ _ _).trans h
theorem Sys.set {w : World} {r : Rep} {s s' : St} (h : Sys w r s) (j : Nat) (v : Value) (hs : (sysCells r s).setIfInBounds j v = sysCells r s')
    (e1 : s'.now = s.now) (e2 : s'.last = s.last) (e3 : s'.pend = s.pend) (e4 : s'.files = s.files) : Sys (w.setCell ⟨r.p, j, none⟩ v) r s' := by
  refine h.fields ?_ (fun k _ hk => heap_setCell_other w ⟨r.p, j, none⟩ k v hk) e1 e2 e3 e4
  rw [← hs]
  exact heap_setCell_same w r.p j _ _ v h.cells
set_option maxHeartbeats 400000 in
theorem begin_yes {w : World} {r : Rep} {s : St} (h : Sys w r s) (hon : s.on = true) (h1 : 0 ≤ s.steps) (h2 : s.steps ≤ 4611686018427387904) (hf : s.fuse ≤ 9223372036854775807) :
    Calls Tryz.prog 119 #[.pointer (some ⟨r.p, 0, none⟩)] w fun e w' => e = .returned (.bool true) ∧ Sys w' r s.begun ∧ Turn [r.p] w w' ∧ w'.heap.size = w.heap.size := by
  have c1 : w.cell? ⟨r.p, 1, none⟩ = some (.bool true) := by rw [← hon]; exact h.c1
  have c3 := h.c3
  have c4 := h.c4
  have f1 := h.warm 1
  have f3 := h.warm 3
  have f4 := h.warm 4
  have hs1 := Lib.hid (h.set (s' := { s with steps := s.steps + 1 }) 3 (.int .i64 (s.steps + 1)) rfl rfl rfl rfl rfl)
  have ht1 := Lib.hid ((Turn.refl [r.p] w).setCell (p := ⟨r.p, 3, none⟩) (.inl (by simp)) (.int .i64 (s.steps + 1)))
  go_enter Tryz.func119, Tryz.ntmps119
  by_cases hneg : s.fuse < 0
  · go_wp2_with (first | (go_at_call 52; refine (on_at _ _ _ c1).mono ?_; rintro e w1 ⟨rfl, rfl⟩) | (go_at_call 157; refine (ends_neg _ _ s.fuse _ (cell_set c4 (by decide)) hneg).mono ?_; rintro e w2 ⟨rfl, rfl⟩))
    go_ret
    refine ⟨rfl, ?_, ?_, by simp⟩
    · have := hs1.out.set (s' := s.begun) 1 (.bool (!over s.fuse)) (by simp [sysCells, St.begun, tick, hneg]) rfl rfl rfl rfl
      exact this
    · exact ht1.out.setCell (.inl (by simp)) _
  · have hpos : 0 ≤ s.fuse := by omega
    go_wp2_with (first | (go_at_call 52; refine (on_at _ _ _ c1).mono ?_; rintro e w1 ⟨rfl, rfl⟩) | (go_at_call 157; refine (ends_pos _ _ s.fuse _ (cell_set c4 (by decide)) (warm_set f4) hpos hf).mono ?_; rintro e w2 ⟨rfl, rfl⟩))
    go_ret
    refine ⟨rfl, ?_, ?_, by simp⟩
    · have h3 := hs1.out.set (s' := { s with steps := s.steps + 1, fuse := s.fuse - 1 }) 4 (.int .i64 (s.fuse - 1)) rfl rfl rfl rfl rfl
      exact h3.set (s' := s.begun) 1 (.bool (!over s.fuse)) (by simp [sysCells, St.begun, tick]; omega) rfl rfl rfl rfl
    · exact (ht1.out.setCell (.inl (by simp)) _).setCell (.inl (by simp)) _
end Go.Proofs.YtfndlfnlepndmaaGreat

namespace Go.Proofs.YtfndlfnlepndmaaGreat
open Go.RowKit

theorem keyS : Maps.Keyed Tryz.prog 9 := Maps.string_keyed Tryz.underlying9
theorem zeroC (w : World) : (zeroValue 76).run Tryz.prog w = .ok (.pointer none) w := by kernel_rfl
theorem dirT : Tryz.prog.underlying 67 = some (.map 9 76) := Tryz.underlying67
abbrev DirAt (w : World) (b : Nat) (l : Dir) : Prop := OwnsDir Tryz.prog 9 w b l
theorem dirLook {w : World} {b : Nat} {l : Dir} (h : DirAt w b l) (s : ByteArray) (hs : s.size ≤ maxLen) :
    (Instr.lookup 67 (.map (some b)) (.string s) false).run Tryz.prog w = .ok (pAt (dget l s.data.toList)) w := h.look Tryz.underlying9 dirT zeroC s hs
theorem toList_data (s : ByteArray) : s.toList = s.data.toList := by
  simp [ByteArray.toList_eq]
theorem str_nil {s : ByteArray} (h : s.data.toList = []) : s.toList.isEmpty = true := by rw [toList_data, h]; rfl
theorem str_ne {s : ByteArray} (h : s.data.toList ≠ []) : s.toList.isEmpty = false := by rw [toList_data]; simpa using h
theorem DirAt.stored {w' : World} {b : Nat} {l : Dir} {n : Nm} {a k : Nat} (h : w'.ownsMap Tryz.prog 9 pElem b k ((DataW.map (encD l)).put (.string n) (.lit (.int .i64 a)))) : DirAt w' b (dput l n a) := by
  rw [encD_put] at h
  exact ownsDir_of h
theorem DirAt.dropped {w' : World} {b : Nat} {l : Dir} {n : Nm} {k : Nat} (h : w'.ownsMap Tryz.prog 9 pElem b k ((DataW.map (encD l)).del (.string n))) : DirAt w' b (ddel l n) := by
  rw [encD_del] at h
  exact ownsDir_of h
theorem key_str {s : ByteArray} (hs : s.size ≤ maxLen) : keyOf Tryz.prog 9 (.string s) = some (.string s.data.toList) := WideMaps.keyOf_string_mk Tryz.underlying9 hs

set_option maxHeartbeats 400000 in
set_option maxRecDepth 100000 in
theorem chg_do (b : Nat) (l : Dir) (src dst : ByteArray) (made : Option Nat) (w : World) (h : DirAt w b l) (h1 : src.size ≤ 1000) (h2 : dst.size ≤ 1000) (hl : l.length ≤ 1000000000)
    (ha : (Chg.mk src.data.toList dst.data.toList made).able l) :
    Calls Tryz.prog 118 #[.agg #[.string src, .string dst, pAt made], .map (some b)] w fun e w' => e = .returned (.tuple #[]) ∧ DirAt w' b ((Chg.mk src.data.toList dst.data.toList made).run l) ∧ Turn [b] w w' := by
  have m1 : src.size ≤ maxLen := by unfold maxLen; omega
  have m2 : dst.size ≤ maxLen := by unfold maxLen; omega
  have hm : l.length < maxLen := by unfold maxLen; omega
  have ht0 := Lib.hid ((Turn.refl [b] w).alloc (.cells #[.string src, .string dst, pAt made] 80))
  have hd0 := h.kept (Below.heap_alloc w (.cells #[.string src, .string dst, pAt made] 80) b h.lt)
  by_cases hs : src.data.toList = []
  · have es := str_nil hs
    by_cases hd : dst.data.toList = []
    · have ed := str_nil hd
      have hfin := Lib.hid (show (Chg.mk src.data.toList dst.data.toList made).run l = l by simp only [Chg.run, Chg.less, hs, hd, if_true])
      clear hs hd
      go_enter Tryz.func118, Tryz.ntmps118
      go_wp2
      go_end0
      rw [hfin.out]
      exact ⟨rfl, hd0, ht0.out⟩
    · have ed := str_ne hd
      have hmade : made.isSome = true := by
        rcases ha with ha | ha
        · exact absurd ha hd
        · simpa [Chg.file, hs] using ha
      obtain ⟨a, rfl⟩ := Option.isSome_iff_exists.1 hmade
      have hfin := Lib.hid (show (Chg.mk src.data.toList dst.data.toList (some a)).run l = dput l dst.data.toList a by rw [Chg.run_put _ _ hd (a := a) (by simp [Chg.file, hs])]; simp only [Chg.less, hs, if_true])
      have hown := Lib.hid hd0
      clear hd0 hs hd
      go_enter Tryz.func118, Tryz.ntmps118
      go_wp2_with (at_mapUpdate; refine wpList_mapUpdate_own _ rfl _ _ _ 67 rfl 9 76 keyS dirT pElem b l.length _ rfl hown.out hm _ _ _ rfl rfl (key_str m2) _ [] (pElem_some a) ?_; intro w1 hown1 hgrow1)
      go_end0
      rw [hfin.out]
      exact ⟨rfl, DirAt.stored hown1, ht0.out.trans (turn_of_grown hgrow1 (F := [b]) (by simp)) (by simp)⟩
  · have es := str_ne hs
    have hlook := dirLook hd0 src m1
    have hown := Lib.hid hd0
    clear hd0
    by_cases hd : dst.data.toList = []
    · have ed := str_nil hd
      have hfin := Lib.hid (show (Chg.mk src.data.toList dst.data.toList made).run l = ddel l src.data.toList by simp only [Chg.run, Chg.less, hs, hd, if_true, if_false])
      generalize pAt (dget l src.data.toList) = q at hlook
      clear hs hd
      go_enter Tryz.func118, Tryz.ntmps118
      go_wp2_with (at_delete; refine wpList_delete_own _ rfl _ _ 67 9 rfl 76 keyS dirT pElem b l.length _ rfl hown.out _ _ rfl (key_str m1) ?_; intro w1 hown1 hturn1; have hc1 : w1.cell? ⟨w.heap.size, 1, none⟩ = some (.string dst) := hturn1.grown.cell (by simp) (by have := h.lt; simp; omega))
      go_end0
      rw [hfin.out]
      exact ⟨rfl, DirAt.dropped hown1, ht0.out.trans (turn_of_grown hturn1.grown (F := [b]) (by simp)) (by simp)⟩
    · have ed := str_ne hd
      have hsome : (dget l src.data.toList).isSome = true := by
        rcases ha with ha | ha
        · exact absurd ha hd
        · simpa [Chg.file, hs] using ha
      obtain ⟨a, hget⟩ := Option.isSome_iff_exists.1 hsome
      rw [hget] at hlook
      have hle := length_ddel l src.data.toList
      have hfin := Lib.hid (show (Chg.mk src.data.toList dst.data.toList made).run l = dput (ddel l src.data.toList) dst.data.toList a by rw [Chg.run_put _ _ hd (a := a) (by simp [Chg.file, hs, hget])]; simp only [Chg.less, hs, if_false])
      clear hget hsome hs hd
      go_enter Tryz.func118, Tryz.ntmps118
      go_wp2_with (first | (at_delete; refine wpList_delete_own _ rfl _ _ 67 9 rfl 76 keyS dirT pElem b l.length _ rfl hown.out _ _ rfl (key_str m1) ?_; intro w1 hown1 hturn1; have hown2 := Lib.hid (DirAt.dropped hown1); clear hown1; have hc1 : w1.cell? ⟨w.heap.size, 1, none⟩ = some (.string dst) := hturn1.grown.cell (by simp) (by have := h.lt; simp; omega)) | (at_mapUpdate; refine wpList_mapUpdate_own _ rfl _ _ _ 67 rfl 9 76 keyS dirT pElem b _ _ rfl hown2.out (Nat.lt_of_le_of_lt hle hm) _ _ _ rfl rfl (key_str m2) _ [] (pElem_some a) ?_; intro w2 hown3 hgrow2))
      go_end0
      rw [hfin.out]
      exact ⟨rfl, DirAt.stored hown3, (ht0.out.trans (turn_of_grown hturn1.grown (F := [b]) (by simp)) (by simp)).trans (turn_of_grown hgrow2 (F := [b]) (by simp)) (by simp)⟩
end Go.Proofs.YtfndlfnlepndmaaGreat

namespace Go.Proofs.YtfndlfnlepndmaaGreat
open Go.RowKit

theorem sclone_any (s : ByteArray) (w : World) (h : s.size ≤ 281474976710656) :
    Calls Tryz.prog 120 #[.string s] w fun e w' => e = .returned (.string s) ∧ Below w.heap.size w w' := by
  go_enter Tryz.func120, Tryz.ntmps120
  go_wp2_with (go_at_call 159; refine (Tryz.stringslite_Clone s _ h).mono ?_; rintro e w' ⟨rfl, hb⟩)
  go_ret
  exact ⟨rfl, hb⟩

theorem mapD_congr {f g : Nat → Nat} {l : Dir} (h : ∀ p ∈ l, f p.2 = g p.2) : mapD f l = mapD g l := by
  unfold mapD
  exact List.map_congr_left fun p hp => by rw [h p hp]
theorem able_map {f : Nat → Nat} {c : Chg} {d : Dir} (h : c.able d) : (c.map f).able (mapD f d) := by
  rcases h with h | h
  · exact .inl h
  · refine .inr ?_
    rw [Chg.map_file, Option.isSome_map]
    exact h
/-- What may be done: a file that is there, and names that may be. -/
structure Chg.fits (c : Chg) (s : St) : Prop where
  able : c.able s.now
  made : ∀ i, c.made = some i → i < s.files.length
  src : c.src = [] ∨ isNm c.src = true
  dst : c.dst = [] ∨ isNm c.dst = true
theorem WF.doing {s : St} {c : Chg} (h : WF s) (hc : c.fits s) : WF (s.doing c) where
  nids := Chg.run_mem (Q := fun p => p.2 < s.files.length) h.nids (fun a _ ha => by
    unfold Chg.file at ha
    split at ha
    · exact hc.made a ha
    · exact h.nids (c.src, a) (mem_of_dget ha))
  nnms := Chg.run_mem (Q := fun p => isNm p.1 = true) h.nnms (fun a hne _ => by
    rcases hc.dst with h' | h'
    · exact absurd h' hne
    · exact h')
  ids := h.ids
  made := fun x hx i hi => by
    rcases List.mem_append.1 hx with hx | hx
    · exact h.made x hx i hi
    · simp at hx
      subst hx
      exact hc.made i hi
  nms := h.nms
  cnms := fun x hx => by
    rcases List.mem_append.1 hx with hx | hx
    · exact h.cnms x hx
    · simp at hx
      subst hx
      exact ⟨hc.src, hc.dst⟩
def Rep.pending (r : Rep) (v : Value) : Rep := { r with pv := v }
theorem foot_pending (r : Rep) (v : Value) (k : Nat) : k ∈ (r.pending v).foot ↔ k = r.p ∨ k = r.mn ∨ k = r.ml ∨ ob v = some k ∨ k ∈ r.fs.flatMap fFoot := by
  simp [Rep.foot, Rep.rest, Rep.pending]
theorem foot_iff (r : Rep) (k : Nat) : k ∈ r.foot ↔ k = r.p ∨ k = r.mn ∨ k = r.ml ∨ ob r.pv = some k ∨ k ∈ r.fs.flatMap fFoot := foot_pending r r.pv k
theorem nodup_pending {r : Rep} (h : r.foot.Nodup) {v : Value} {B : Nat} (hB : ∀ k ∈ r.foot, k < B) (hv : ob v = ob r.pv ∨ ob v = none ∨ ∃ g, ob v = some g ∧ B ≤ g) : (r.pending v).foot.Nodup := by
  rcases hv with hv | hv | ⟨g, hv, hg⟩
  · simpa [Rep.foot, Rep.rest, Rep.pending, hv] using h
  · refine List.Nodup.sublist ?_ h
    simp only [Rep.foot, Rep.rest, Rep.pending, hv]
    simp
  · have h' : (r.p :: r.mn :: r.ml :: r.fs.flatMap fFoot).Nodup := by
      refine List.Nodup.sublist ?_ h
      simp only [Rep.foot, Rep.rest]
      simp
    have hn : g ∉ r.p :: r.mn :: r.ml :: r.fs.flatMap fFoot := by
      intro hm
      have : g ∈ r.foot := by
        rw [foot_iff]
        simp only [List.mem_cons] at hm
        rcases hm with hm | hm | hm | hm
        · exact .inl hm
        · exact .inr (.inl hm)
        · exact .inr (.inr (.inl hm))
        · exact .inr (.inr (.inr (.inr hm)))
      have := hB g this
      omega
    have : (r.pending v).foot.Perm (g :: r.p :: r.mn :: r.ml :: r.fs.flatMap fFoot) := by
      simp only [Rep.foot, Rep.rest, Rep.pending, hv, Option.toList_some]
      exact (List.perm_middle (l₁ := [r.p, r.mn, r.ml])).trans (by simp)
    exact this.nodup_iff.2 (List.nodup_cons.2 ⟨hn, h'⟩)
theorem Sys.did {w w' : World} {r : Rep} {s : St} {c : Chg} {v : Value} (h : Sys w r s) (hc : w'.heap[r.p]? = some (.cells (sysCells (r.pending v) s) 70))
    (hmn : DirAt w' r.mn (mapD r.at (c.run s.now))) (hrow : Row w' 80 3 v (s.pend.length + 1) (s.pend.flatMap (chgCells r.at) ++ chgCells r.at c))
    (hv : ob v = ob r.pv ∨ ob v = none ∨ ∃ g, ob v = some g ∧ w.heap.size ≤ g) (hk : ∀ k, k = r.ml ∨ k ∈ r.fs.flatMap fFoot → w'.heap[k]? = w.heap[k]?) (hf : c.fits s) : Sys w' (r.pending v) (s.doing c) where
  cells := hc
  now := hmn
  last := h.last.kept (hk _ (.inl rfl))
  pend := by
    have : (s.doing c).pend.flatMap (chgCells r.at) = s.pend.flatMap (chgCells r.at) ++ chgCells r.at c := by simp [St.doing]
    show Row w' _ 3 v (s.pend ++ [c]).length _
    rw [List.length_append]
    rw [show (r.pending v).at = r.at from rfl, this]
    exact hrow
  len := h.len
  file := fun i x f hx hf => (h.file i x f hx hf).kept fun k hk' => hk k (.inr (List.mem_flatMap.2 ⟨x, List.mem_of_getElem? hx, hk'⟩))
  apart := nodup_pending h.apart h.lt hv
  wf := h.wf.doing hf
/-- What lies apart, in words. -/
structure Apart (r : Rep) : Prop where
  pn : r.p ≠ r.mn
  pl : r.p ≠ r.ml
  nl : r.mn ≠ r.ml
  pv : ∀ k, ob r.pv = some k → k ≠ r.p ∧ k ≠ r.mn ∧ k ≠ r.ml ∧ k ∉ r.fs.flatMap fFoot
  fs : ∀ k ∈ r.fs.flatMap fFoot, k ≠ r.p ∧ k ≠ r.mn ∧ k ≠ r.ml
theorem apart_of {r : Rep} (h : r.foot.Nodup) : Apart r := by
  obtain ⟨h1, h⟩ := List.nodup_cons.1 h
  obtain ⟨h2, h⟩ := List.nodup_cons.1 h
  obtain ⟨h3, h⟩ := List.nodup_cons.1 h
  simp only [List.mem_cons, not_or, Rep.rest, List.mem_append, Option.mem_toList] at h1 h2 h3
  refine ⟨h1.1, h1.2.1, h2.1, fun k hk => ⟨fun e => h1.2.2.1 (e ▸ hk), fun e => h2.2.1 (e ▸ hk), fun e => h3.1 (e ▸ hk), fun hm => ?_⟩, fun k hk => ⟨fun e => h1.2.2.2 (e ▸ hk), fun e => h2.2.2 (e ▸ hk), fun e => h3.2 (e ▸ hk)⟩⟩
  exact (List.nodup_append.1 h).2.2 k (by simp [hk]) k hm rfl
theorem do_end {w w3 w4 W w5 : World} {r : Rep} {s : St} {c : Chg} {v : Value} (h : Sys w r s) (ht3 : Turn [] w w3) (ht4 : Turn [r.mn] w3 w4) (hd4 : DirAt w4 r.mn ((c.map r.at).run (mapD r.at s.now))) (hW : Turn [] w4 W) (hgrow : W.grownBy w5 (ob r.pv))
    (hrow : Row w5 80 3 v (s.pend.length + 1) (s.pend.flatMap (chgCells r.at) ++ chgCells r.at c)) (hob : ob v = ob r.pv ∨ (ob v = some W.heap.size ∧ W.grownBy w5 none)) (hf : c.fits s) : Next w r (s.doing c) (w5.setCell ⟨r.p, 8, none⟩ v) := by
  have A := apart_of h.apart
  have hmnl := h.lt r.mn (by simp [Rep.foot])
  have hpl := h.lt r.p (by simp [Rep.foot])
  have hsz3 := ht3.size
  have hsz4 := ht4.size
  have hszW := hW.size
  have t4 : Turn [r.mn] w w4 := (ht3.mono (G := [r.mn]) (by simp)).trans ht4 (fun x hx => .inl hx)
  have t5 : Turn (r.mn :: (ob r.pv).toList) w w5 := ((t4.mono (G := r.mn :: (ob r.pv).toList) (by simp)).trans hW (by simp)).trans (turn_of_grown (F := (ob r.pv).toList) hgrow (fun k hk => .inl (by simp [hk]))) (fun x hx => .inl (by simp at hx ⊢; exact .inr hx))
  have t6 : Turn (r.p :: r.mn :: (ob r.pv).toList) w (w5.setCell ⟨r.p, 8, none⟩ v) := (t5.mono (G := r.p :: r.mn :: (ob r.pv).toList) (fun x hx => .inl (List.mem_cons_of_mem _ hx))).setCell (.inl (by simp)) v
  have hnp : some r.p ≠ ob r.pv := fun e => (A.pv r.p e.symm).1 rfl
  have hnm : some r.mn ≠ ob r.pv := fun e => (A.pv r.mn e.symm).2.1 rfl
  refine ⟨r.pending v, h.did ?_ ?_ ?_ ?_ ?_ hf, rfl, t6.mono (fun x hx => .inl ?_), fun k hk => ?_⟩
  · have : w5.heap[r.p]? = some (.cells (sysCells r s) 70) := by
      rw [t5.block r.p hpl (by simp [A.pn]; exact fun e => hnp e.symm)]
      exact h.cells
    exact heap_setCell_same w5 r.p 8 _ _ v this
  · have e1 : (w5.setCell ⟨r.p, 8, none⟩ v).heap[r.mn]? = w4.heap[r.mn]? := by
      rw [heap_setCell_other w5 ⟨r.p, 8, none⟩ r.mn v (fun e => A.pn e.symm), hgrow.block r.mn (by omega) hnm]
      exact hW.block r.mn (by omega) (by simp)
    have := hd4.kept e1
    rwa [Chg.map_run] at this
  · refine hrow.kept fun k hk => heap_setCell_other w5 ⟨r.p, 8, none⟩ k v fun e => ?_
    have e' : k = r.p := e
    rcases hob with hob | ⟨hob, -⟩
    · rw [hob, e'] at hk
      exact hnp hk.symm
    · rw [hob] at hk
      simp at hk
      omega
  · rcases hob with hob | ⟨hob, -⟩
    · exact .inl hob
    · exact .inr (.inr ⟨_, hob, by omega⟩)
  · intro k hk
    refine t6.block k (h.lt k ?_) ?_
    · rw [foot_iff]
      rcases hk with hk | hk
      · exact .inr (.inr (.inl hk))
      · exact .inr (.inr (.inr (.inr hk)))
    · simp only [List.mem_cons, Option.mem_toList, not_or]
      rcases hk with rfl | hk
      · exact ⟨fun e => A.pl e.symm, fun e => A.nl e.symm, fun e => (A.pv _ e).2.2.1 rfl⟩
      · exact ⟨(A.fs k hk).1, (A.fs k hk).2.1, fun e => (A.pv k e).2.2.2 hk⟩
  · rw [foot_iff]
    simp only [List.mem_cons, Option.mem_toList] at hx
    rcases hx with hx | hx | hx
    · exact .inl hx
    · exact .inr (.inl hx)
    · exact .inr (.inr (.inr (.inl hx)))
  · rw [foot_pending] at hk
    rw [foot_iff]
    rcases hk with hk | hk | hk | hk | hk
    · exact .inl (.inl hk)
    · exact .inl (.inr (.inl hk))
    · exact .inl (.inr (.inr (.inl hk)))
    · rcases hob with hob | ⟨hob, -⟩
      · exact .inl (.inr (.inr (.inr (.inl (hob ▸ hk)))))
      · rw [hob] at hk
        simp at hk
        exact .inr (by omega)
    · exact .inl (.inr (.inr (.inr (.inr hk))))
end Go.Proofs.YtfndlfnlepndmaaGreat

namespace Go.Proofs.YtfndlfnlepndmaaGreat
open Go.RowKit

theorem infoChg : (Tryz.prog.info? 80).map (fun i => (i.zero, i.size, i.bytes)) = some (some (.agg #[.string ⟨#[]⟩, .string ⟨#[]⟩, .pointer none]), 3, 40) := by kernel_rfl
theorem one_chg {a b : ByteArray} {o : Option Nat} : ∀ u ∈ [Value.string a, Value.string b, pAt o], u.oneCell' = true := by
  intro u hu
  simp at hu
  rcases hu with rfl | rfl | rfl
  · rfl
  · rfl
  · cases o <;> rfl
set_option maxHeartbeats 2000000 in
set_option maxRecDepth 100000 in
theorem do_any {w : World} {r : Rep} {s : St} (h : Sys w r s) (src dst : ByteArray) (made : Option Nat) (hf : (Chg.mk src.data.toList dst.data.toList made).fits s) (h1 : src.size ≤ 1000) (h2 : dst.size ≤ 1000) (hl : s.now.length ≤ 1000000000) (hp : s.pend.length ≤ 1000000000) :
    Calls Tryz.prog 31 #[.pointer (some ⟨r.p, 0, none⟩), .agg #[.string src, .string dst, pAt (made.map r.at)]] w fun e w' => e = .returned (.tuple #[]) ∧ Next w r (s.doing ⟨src.data.toList, dst.data.toList, made⟩) w' := by
  obtain ⟨q, hq⟩ : ∃ q, pAt (made.map r.at) = q := ⟨_, rfl⟩
  rw [hq]
  have hpl : r.p < w.heap.size := h.lt _ (by simp [Rep.foot])
  go_enter Tryz.func31, Tryz.ntmps31
  go_wp2
  go_region_held3 (fun w' => w'.cell? ⟨w.heap.size, 0, none⟩ = some (.string src) ∧ w'.cell? ⟨w.heap.size, 1, none⟩ = some (.string dst)) (first | go_keep | exact ⟨cell_new k20, cell_set k21 (by decide)⟩ | exact ⟨cell_set (cell_new k20) (by decide), cell_new (cell_set k21 (by decide))⟩) (first | (go_at_call 120; first | ((with_reducible refine (sclone_any src _ (by omega)).mono ?_); rintro e w1 ⟨rfl, hb1⟩; have hz1 := hb1.size; have k10 : w1.cell? ⟨w.heap.size, 0, none⟩ = some (.string src) := (hb1.cell (p := ⟨w.heap.size, 0, none⟩) (by simp)).trans (by simp); have f10 : w1.frozen? ⟨w.heap.size, 0, none⟩ = false := (hb1.frozen (p := ⟨w.heap.size, 0, none⟩) (by simp)).trans (by simp); have k11 : w1.cell? ⟨w.heap.size, 1, none⟩ = some (.string dst) := (hb1.cell (p := ⟨w.heap.size, 1, none⟩) (by simp)).trans (by simp); have f11 : w1.frozen? ⟨w.heap.size, 1, none⟩ = false := (hb1.frozen (p := ⟨w.heap.size, 1, none⟩) (by simp)).trans (by simp); have k12 : w1.cell? ⟨w.heap.size, 2, none⟩ = some (q) := (hb1.cell (p := ⟨w.heap.size, 2, none⟩) (by simp)).trans (by simp); simp at hz1) | ((with_reducible refine (sclone_any dst _ (by omega)).mono ?_); rintro e w2 ⟨rfl, hb2⟩; have hz2 := hb2.size; have k20 : w2.cell? ⟨w.heap.size, 0, none⟩ = some (.string src) := (hb2.cell (p := ⟨w.heap.size, 0, none⟩) (show w.heap.size < w1.heap.size by omega)).trans (by assumption); have f20 : w2.frozen? ⟨w.heap.size, 0, none⟩ = false := (hb2.frozen (p := ⟨w.heap.size, 0, none⟩) (show w.heap.size < w1.heap.size by omega)).trans (by assumption); have k21 : w2.cell? ⟨w.heap.size, 1, none⟩ = some (.string dst) := (hb2.cell (p := ⟨w.heap.size, 1, none⟩) (show w.heap.size < w1.heap.size by omega)).trans (by assumption); have f21 : w2.frozen? ⟨w.heap.size, 1, none⟩ = false := (hb2.frozen (p := ⟨w.heap.size, 1, none⟩) (show w.heap.size < w1.heap.size by omega)).trans (by assumption); have k22 : w2.cell? ⟨w.heap.size, 2, none⟩ = some (q) := (hb2.cell (p := ⟨w.heap.size, 2, none⟩) (show w.heap.size < w1.heap.size by omega)).trans (by assumption))))
  have ht3 : Turn [] w ((w2.setCell ⟨w.heap.size, 0, none⟩ (.string src)).setCell ⟨w.heap.size, 1, none⟩ (.string dst)) :=
    (((((Turn.refl [] w).alloc _).drew.trans (turn_of_below (F := []) hb1) (by simp)).trans (turn_of_below (F := []) hb2) (by simp)).setCell (.inr (Nat.le_refl _)) _).setCell (.inr (Nat.le_refl _)) _
  have k30 : ((w2.setCell ⟨w.heap.size, 0, none⟩ (.string src)).setCell ⟨w.heap.size, 1, none⟩ (.string dst)).cell? ⟨w.heap.size, 0, none⟩ = some (.string src) := cell_set (cell_new k20) (by decide)
  have k31 : ((w2.setCell ⟨w.heap.size, 0, none⟩ (.string src)).setCell ⟨w.heap.size, 1, none⟩ (.string dst)).cell? ⟨w.heap.size, 1, none⟩ = some (.string dst) := cell_new (cell_set k21 (by decide))
  have k32 : ((w2.setCell ⟨w.heap.size, 0, none⟩ (.string src)).setCell ⟨w.heap.size, 1, none⟩ (.string dst)).cell? ⟨w.heap.size, 2, none⟩ = some q := cell_set (cell_set k22 (by decide)) (by decide)
  have hz3 : w.heap.size < ((w2.setCell ⟨w.heap.size, 0, none⟩ (.string src)).setCell ⟨w.heap.size, 1, none⟩ (.string dst)).heap.size := by simp; omega
  generalize ((w2.setCell ⟨w.heap.size, 0, none⟩ (.string src)).setCell ⟨w.heap.size, 1, none⟩ (.string dst)) = w3 at *
  have hs3 := Lib.hid (h.turned ht3 (by simp))
  have c6 := hs3.out.c6
  have c8 := hs3.out.c8
  have hpl3 : r.p < w3.heap.size := hs3.out.lt _ (by simp [Rep.foot])
  have hne0 : w.heap.size ∉ [r.mn] := by
    have := h.lt r.mn (by simp [Rep.foot])
    simp
    omega
  have hnpv : ∀ k, ob r.pv = some k → k ∉ [r.mn] := by
    intro k hk
    have := h.apart
    simp [Rep.foot, Rep.rest, hk] at this ⊢
    exact fun e => this.2.1.2.1 e.symm
  have hne2 : some r.p ≠ ob r.pv := by
    intro e
    have := h.apart
    simp [Rep.foot, Rep.rest, ← e] at this
  have hne1 : r.p ∉ [r.mn] := by
    have := h.apart
    simp [Rep.foot] at this ⊢
    exact this.1.1
  go_wp2
  have hdo := Lib.hid (fun W (hW : DirAt W r.mn (mapD r.at s.now)) => chg_do r.mn (mapD r.at s.now) src dst (made.map r.at) W hW h1 h2 (by unfold mapD; simpa using hl) (able_map hf.able))
  rw [hq] at hdo
  have hmn := hs3.out.now
  clear hb1 hb2 hz1 hz2 k10 k11 k12 k20 k21 k22 f10 f11 f20 f21
  go_region_held3 (fun w' => w'.cell? ⟨w.heap.size, 0, none⟩ = some (.string src) ∧ w'.cell? ⟨w.heap.size, 1, none⟩ = some (.string dst) ∧ w'.cell? ⟨w.heap.size, 2, none⟩ = some q ∧ w'.cell? ⟨r.p, 6, none⟩ = some (.map (some r.mn))) (first | go_keep | exact ⟨k40, k41, k42, k46⟩) (first | (go_at_call 118; refine (hdo.out _ (by exact hmn.kept rfl)).mono ?_; rintro e w4 ⟨rfl, hd4, ht4⟩; have ht4' : Turn [r.mn] w3 w4 := (Turn.refl _ _).drew.trans ht4 (fun x hx => .inl hx); have k40 : w4.cell? ⟨w.heap.size, 0, none⟩ = some (.string src) := (ht4'.cell hz3 hne0).trans k30; have k41 : w4.cell? ⟨w.heap.size, 1, none⟩ = some (.string dst) := (ht4'.cell hz3 hne0).trans k31; have k42 : w4.cell? ⟨w.heap.size, 2, none⟩ = some q := (ht4'.cell hz3 hne0).trans k32; have k46 : w4.cell? ⟨r.p, 6, none⟩ = some (.map (some r.mn)) := (ht4'.cell hpl3 hne1).trans c6))
  have k48 : w4.cell? ⟨r.p, 8, none⟩ = some r.pv := (ht4'.cell hpl3 hne1).trans c8
  have f48 : w4.frozen? ⟨r.p, 8, none⟩ = false := (ht4'.frozen hpl3 hne1).trans (hs3.out.warm 8)
  clear c6 c8 k30 k31 k32 k46
  have hrow4 : Row w4 80 3 r.pv s.pend.length (s.pend.flatMap (chgCells r.at)) := (hs3.out.pend).kept fun k hk => ht4'.block k (hs3.out.pend.lt k hk) (hnpv k hk)
  have HR := Lib.hid (fun o => hrow4.kept (w' := (w4.alloc o).drew) fun k hk => Below.heap_alloc w4 o k (hrow4.lt k hk))
  have HSrc := Lib.hid (Src.ofSlice (P := Tryz.prog) (w4.alloc (.cells #[.string src, .string dst, q] 80)).drew (size := 3) Tryz.underlying68 ⟨w4.heap.size, 0, none⟩ 1 1 [.string src, .string dst, q] rfl (fun j u hu => by
    match j, hu with
    | 0, hu => simpa [Addr.add] using hu
    | 1, hu => simpa [Addr.add] using hu
    | 2, hu => simpa [Addr.add] using hu) (by rw [← hq]; exact one_chg))
  have HB1 := Lib.hid (show s.pend.length + 1 ≤ maxLen by unfold maxLen; omega)
  have HB2 := Lib.hid (show (s.pend.length + 1) * 40 ≤ 140737488355328 by omega)
  obtain ⟨i0, hi, hz0, hzs, hzb⟩ := info_parts infoChg
  have hpl4 : r.p < w4.heap.size := Nat.lt_of_lt_of_le hpl3 ht4'.size
  have k58' : ∀ o, (w4.alloc o).cell? ⟨r.p, 8, none⟩ = some r.pv := fun o => (World.cell?_of_block (Below.heap_alloc w4 o r.p hpl4)).trans k48
  have f58' : ∀ o, (w4.alloc o).frozen? ⟨r.p, 8, none⟩ = false := fun o => (World.frozen?_of_block (Below.heap_alloc w4 o r.p hpl4)).trans f48
  go_wp2
  go_region_law (refine step_append_row _ rfl (.tmp 22) (.tmp 24) 68 68 rfl 80 i0 _ 3 40 Tryz.underlying68 hi hz0 hzs hzb rfl r.pv _ _ (by simp [Act.eval]) (HR.out _) _ (by simp [Act.eval]) 1 _ HSrc.out HB1.out HB2.out ?_; intro v' w5 hrow5 hgrow5 hob5; obtain ⟨a5, c5, rfl, -, -⟩ := hrow5.le; have k58 : w5.cell? ⟨r.p, 8, none⟩ = some r.pv := hgrow5.cell (a := ⟨r.p, 8, none⟩) (by simp [k58']) hne2; have f58 : w5.frozen? ⟨r.p, 8, none⟩ = false := (World.frozen?_of_block (hgrow5.block r.p (by simp; omega) hne2)).trans (by simp [f58']))
  all_goals go_wp2
  all_goals go_end0
  all_goals
    refine ⟨rfl, do_end h ht3 ht4' hd4 ((Turn.refl [] w4).alloc _).drew hgrow5 ?_ hob5 hf⟩
    rw [show chgCells r.at ⟨src.data.toList, dst.data.toList, made⟩ = [Value.string src, Value.string dst, q] by unfold chgCells; rw [hq]]
    exact hrow5
end Go.Proofs.YtfndlfnlepndmaaGreat

namespace Go.Proofs.YtfndlfnlepndmaaGreat
open Go.RowKit

theorem write_off (fn : FuncId) (caps : Array Value) (b : Nat) (w : World) (h : w.cell? ⟨b, 1, none⟩ = some (.bool false)) :
    Calls Tryz.prog 28 #[.pointer (some ⟨b, 0, none⟩), .func (.func fn) #[] caps] w fun e w' => e = .returned (.int .i64 14) ∧ w = w' := by
  go_enter Tryz.func28, Tryz.ntmps28
  go_wp2_with (go_at_call 119; refine (begun_no _ _ h).mono ?_; rintro e w1 ⟨rfl, rfl⟩)
  go_ret
  exact ⟨rfl, rfl⟩
theorem write_nil (fn : FuncId) (caps : Array Value) (w : World) :
    Calls Tryz.prog 28 #[.pointer none, .func (.func fn) #[] caps] w fun e w' => e = .returned (.int .i64 14) ∧ w = w' := by
  go_enter Tryz.func28, Tryz.ntmps28
  go_wp2_with (go_at_call 119; refine (begun_nil _).mono ?_; rintro e w1 ⟨rfl, rfl⟩)
  go_ret
  exact ⟨rfl, rfl⟩
set_option maxHeartbeats 1000000 in
set_option maxRecDepth 100000 in
theorem write_on (fn : FuncId) (caps : Array Value) (hfn : ∀ w : World, (callFunc fn caps).run Tryz.prog w = .ok (.enter fn caps) w) (act : St → St × Int) {w : World} {r : Rep} {s : St} (h : Sys w r s) (hon : s.on = true) (h1 : 0 ≤ s.steps) (h2 : s.steps ≤ 4611686018427387904) (hfu : s.fuse ≤ 9223372036854775807)
    (hact : ∀ w1, Sys w1 r s.begun → Turn [r.p] w w1 → w1.heap.size = w.heap.size → Calls Tryz.prog fn caps w1 fun e w' => e = .returned (.int .i64 (act s.begun).2) ∧ Next w1 r (act s.begun).1 w') (hst : (act s.begun).1.on = s.begun.on) :
    Calls Tryz.prog 28 #[.pointer (some ⟨r.p, 0, none⟩), .func (.func fn) #[] caps] w fun e w' => e = .returned (.int .i64 (wr s act).2) ∧ Next w r (wr s act).1 w' := by
  have hb := Lib.hid (begin_yes h hon h1 h2 hfu)
  have HA := Lib.hid hact
  clear hact
  go_enter Tryz.func28, Tryz.ntmps28
  go_wp2_with (go_at_call 119; refine hb.out.mono ?_; rintro e w1 ⟨rfl, hs1, ht1, hz1⟩)
  refine (HA.out _ hs1 ht1 hz1).mono ?_
  rintro e w2 ⟨rfl, hn2⟩
  obtain ⟨r2, hs2, hp2, ht2, hf2⟩ := hn2
  have c1 : w2.cell? ⟨r.p, 1, none⟩ = some (.bool s.begun.on) := by
    rw [← hp2, ← hst]
    exact hs2.c1
  have hfin : Next w r (wr s act).1 w2 := by
    have e1 : (wr s act).1 = (act s.begun).1 := by simp [wr, hon]
    rw [e1]
    refine ⟨r2, hs2, hp2, (ht1.mono (G := r.foot) (by simp [Rep.foot])).trans ht2 (fun x hx => .inl hx), fun k hk => ?_⟩
    rcases hf2 k hk with hk | hk
    · exact .inl hk
    · exact .inr (by omega)
  have Hfin := Lib.hid hfin
  have hr : (wr s act).2 = if s.begun.on then (act s.begun).2 else 14 := by simp [wr, hon]
  have Hr := Lib.hid hr
  clear hfin hr
  cases hb : s.begun.on
  · rw [hb] at c1
    rw [hb] at Hr
    go_wp2
    go_ret
    exact ⟨by rw [Hr.out]; rfl, Hfin.out⟩
  · rw [hb] at c1
    rw [hb] at Hr
    go_wp2
    go_ret
    exact ⟨by rw [Hr.out]; rfl, Hfin.out⟩
end Go.Proofs.YtfndlfnlepndmaaGreat
