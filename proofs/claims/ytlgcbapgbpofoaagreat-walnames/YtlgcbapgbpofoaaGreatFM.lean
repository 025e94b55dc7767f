/- Files, plainly: directories as rising lists, changes, states, and what each call makes of a state. -/
import Derived.WideAt
import Derived.WideShapes
namespace Go.Proofs.YtlgcbapgbpofoaaGreat

abbrev Nm := List UInt8
abbrev Dir := List (Nm × Nat)
def dget (l : Dir) (n : Nm) : Option Nat := (l.find? fun p => p.1 == n).map (·.2)
def ddel (l : Dir) (n : Nm) : Dir := l.filter fun p => !(p.1 == n)
def dins (x : Nm × Nat) : Dir → Dir
  | [] => [x]
  | y :: r => if bytesBefore x.1 y.1 then x :: y :: r else y :: dins x r
def dput (l : Dir) (n : Nm) (a : Nat) : Dir := dins (n, a) (ddel l n)
def mapD (f : Nat → Nat) (l : Dir) : Dir := l.map fun p => (p.1, f p.2)

theorem mapD_get (f : Nat → Nat) (l : Dir) (n : Nm) : dget (mapD f l) n = (dget l n).map f := by
  unfold dget mapD
  rw [List.find?_map]
  simp only [Function.comp_def, Option.map_map]
theorem mapD_del (f : Nat → Nat) (l : Dir) (n : Nm) : ddel (mapD f l) n = mapD f (ddel l n) := by
  unfold ddel mapD
  rw [List.filter_map]
  rfl
theorem mapD_ins (f : Nat → Nat) (x : Nm × Nat) : ∀ l : Dir, dins (x.1, f x.2) (mapD f l) = mapD f (dins x l)
  | [] => rfl
  | y :: r => by
    have ih := mapD_ins f x r
    unfold mapD at *
    simp only [List.map_cons, dins]
    split
    · simp
    · simp [ih]
theorem mapD_put (f : Nat → Nat) (l : Dir) (n : Nm) (a : Nat) : dput (mapD f l) n (f a) = mapD f (dput l n a) := by
  unfold dput
  rw [mapD_del, ← mapD_ins]
theorem mapD_names (f : Nat → Nat) (l : Dir) : (mapD f l).map (·.1) = l.map (·.1) := by
  unfold mapD
  rw [List.map_map]
  rfl
theorem mem_dins {x p : Nm × Nat} : ∀ {l : Dir}, p ∈ dins x l ↔ p = x ∨ p ∈ l
  | [] => by simp [dins]
  | y :: r => by
    have ih := mem_dins (x := x) (p := p) (l := r)
    unfold dins
    split
    · simp
    · simp only [List.mem_cons, ih]
      constructor
      · rintro (h | h | h)
        · exact .inr (.inl h)
        · exact .inl h
        · exact .inr (.inr h)
      · rintro (h | h | h)
        · exact .inr (.inl h)
        · exact .inl h
        · exact .inr (.inr h)
theorem mem_ddel {p : Nm × Nat} {l : Dir} {n : Nm} : p ∈ ddel l n ↔ p ∈ l ∧ p.1 ≠ n := by
  unfold ddel
  simp
theorem mem_dput {p : Nm × Nat} {l : Dir} {n : Nm} {a : Nat} : p ∈ dput l n a ↔ p = (n, a) ∨ (p ∈ l ∧ p.1 ≠ n) := by
  unfold dput
  rw [mem_dins, mem_ddel]
theorem length_dins (x : Nm × Nat) : ∀ l : Dir, (dins x l).length = l.length + 1
  | [] => rfl
  | y :: r => by
    unfold dins
    split
    · rfl
    · simp [length_dins x r]
theorem length_ddel (l : Dir) (n : Nm) : (ddel l n).length ≤ l.length := List.length_filter_le _ _
theorem length_dput (l : Dir) (n : Nm) (a : Nat) : (dput l n a).length ≤ l.length + 1 := by
  unfold dput
  rw [length_dins]
  have := length_ddel l n
  omega
theorem mem_of_dget {l : Dir} {n : Nm} {a : Nat} (h : dget l n = some a) : (n, a) ∈ l := by
  unfold dget at h
  cases hf : l.find? (fun p => p.1 == n) with
  | none => rw [hf] at h; cases h
  | some p =>
    rw [hf] at h
    have h1 := List.mem_of_find?_eq_some hf
    have h2 := List.find?_some hf
    simp at h h2
    obtain ⟨x, y⟩ := p
    simp at h h2
    subst h
    subst h2
    exact h1

/-- Rising by the names. -/
def Rise (l : Dir) : Prop := l.Pairwise fun p q => bytesBefore p.1 q.1 = true
theorem rise_nil : Rise [] := List.Pairwise.nil
theorem Rise.del {l : Dir} (h : Rise l) (n : Nm) : Rise (ddel l n) := h.filter _
theorem rise_ins {x : Nm × Nat} : ∀ {l : Dir}, Rise l → (∀ p ∈ l, p.1 ≠ x.1) → Rise (dins x l)
  | [], _, _ => List.pairwise_singleton _ _
  | y :: r, h, hne => by
    have h1 := List.pairwise_cons.1 h
    unfold dins
    split
    · rename_i hb
      refine List.pairwise_cons.2 ⟨fun q hq => ?_, h⟩
      rcases List.mem_cons.1 hq with rfl | hq
      · exact hb
      · exact WideShapes.bytes_trans _ _ _ hb (h1.1 q hq)
    · rename_i hb
      have hyx : bytesBefore y.1 x.1 = true := by
        rcases WideAt.bytes_total y.1 x.1 (hne y (by simp)) with h' | h'
        · exact h'
        · exact absurd h' hb
      refine List.pairwise_cons.2 ⟨fun q hq => ?_, rise_ins h1.2 (fun p hp => hne p (by simp [hp]))⟩
      rcases mem_dins.1 hq with rfl | hq
      · exact hyx
      · exact h1.1 q hq
theorem Rise.put {l : Dir} (h : Rise l) (n : Nm) (a : Nat) : Rise (dput l n a) :=
  rise_ins (h.del n) (fun _ hp => (mem_ddel.1 hp).2)
theorem rise_map {f : Nat → Nat} {l : Dir} (h : Rise l) : Rise (mapD f l) := by
  unfold Rise mapD
  rw [List.pairwise_map]
  exact h

/-- Something done to a directory. -/
structure Chg where
  src : Nm
  dst : Nm
  made : Option Nat
deriving DecidableEq
def Chg.file (c : Chg) (d : Dir) : Option Nat := if c.src = [] then c.made else dget d c.src
def Chg.less (c : Chg) (d : Dir) : Dir := if c.src = [] then d else ddel d c.src
def Chg.run (c : Chg) (d : Dir) : Dir :=
  if c.dst = [] then c.less d else match c.file d with | some a => dput (c.less d) c.dst a | none => c.less d
theorem Chg.run_put (c : Chg) (d : Dir) (hd : c.dst ≠ []) {a : Nat} (h : c.file d = some a) : c.run d = dput (c.less d) c.dst a := by
  unfold Chg.run
  rw [if_neg hd, h]
/-- It names a file that is there. -/
def Chg.able (c : Chg) (d : Dir) : Prop := c.dst = [] ∨ (c.file d).isSome = true
def redo (d : Dir) (l : List Chg) : Dir := l.foldl (fun d c => c.run d) d
def able : Dir → List Chg → Prop
  | _, [] => True
  | d, c :: l => c.able d ∧ able (c.run d) l
def Chg.map (f : Nat → Nat) (c : Chg) : Chg := ⟨c.src, c.dst, c.made.map f⟩
theorem Chg.map_file (f : Nat → Nat) (c : Chg) (d : Dir) : (c.map f).file (mapD f d) = (c.file d).map f := by
  unfold Chg.file Chg.map
  simp only
  split
  · rfl
  · exact mapD_get f d c.src
theorem Chg.map_less (f : Nat → Nat) (c : Chg) (d : Dir) : (c.map f).less (mapD f d) = mapD f (c.less d) := by
  unfold Chg.less Chg.map
  simp only
  split
  · rfl
  · exact mapD_del f d c.src
theorem Chg.map_run (f : Nat → Nat) (c : Chg) (d : Dir) : (c.map f).run (mapD f d) = mapD f (c.run d) := by
  unfold Chg.run
  rw [Chg.map_file, Chg.map_less]
  show (if c.dst = [] then _ else _) = _
  split
  · rfl
  · cases c.file d with
    | none => rfl
    | some a => exact mapD_put f _ _ a
theorem redo_map (f : Nat → Nat) : ∀ (l : List Chg) (d : Dir), redo (mapD f d) (l.map (Chg.map f)) = mapD f (redo d l)
  | [], _ => rfl
  | c :: l, d => by
    show redo ((c.map f).run (mapD f d)) (l.map (Chg.map f)) = _
    rw [Chg.map_run, redo_map f l]
    rfl
theorem redo_snoc (d : Dir) (l : List Chg) (c : Chg) : redo d (l ++ [c]) = c.run (redo d l) := by
  unfold redo
  rw [List.foldl_append]
  rfl
theorem able_snoc : ∀ (l : List Chg) (d : Dir) (c : Chg), able d (l ++ [c]) ↔ able d l ∧ c.able (redo d l)
  | [], d, c => by simp [able, redo]
  | x :: l, d, c => by
    show (x.able d ∧ able (x.run d) (l ++ [c])) ↔ _
    rw [able_snoc l (x.run d) c]
    show _ ↔ (x.able d ∧ able (x.run d) l) ∧ c.able (redo (x.run d) l)
    rw [and_assoc]
theorem able_take : ∀ (l : List Chg) (d : Dir) (k : Nat), able d l → able d (l.take k)
  | [], _, k, _ => by simp [able]
  | x :: l, d, 0, _ => trivial
  | x :: l, d, k + 1, h => ⟨h.1, able_take l _ k h.2⟩
theorem Chg.rise {c : Chg} {d : Dir} (h : Rise d) : Rise (c.run d) := by
  have h1 : Rise (c.less d) := by
    unfold Chg.less
    split
    · exact h
    · exact h.del _
  unfold Chg.run
  split
  · exact h1
  · split
    · exact h1.put _ _
    · exact h1
theorem redo_rise : ∀ (l : List Chg) (d : Dir), Rise d → Rise (redo d l)
  | [], _, h => h
  | c :: l, d, h => redo_rise l (c.run d) (Chg.rise h)
/-- What holds of every entry of a directory, and of what is made. -/
theorem Chg.run_mem {Q : Nm × Nat → Prop} {c : Chg} {d : Dir} (hd : ∀ p ∈ d, Q p) (hc : ∀ a, c.dst ≠ [] → c.file d = some a → Q (c.dst, a)) : ∀ p ∈ c.run d, Q p := by
  have h1 : ∀ p ∈ c.less d, Q p := by
    unfold Chg.less
    split
    · exact hd
    · exact fun p hp => hd p (mem_ddel.1 hp).1
  unfold Chg.run
  split
  · exact h1
  · rename_i hne
    split
    · rename_i a ha
      intro p hp
      rcases mem_dput.1 hp with rfl | hp
      · exact hc a hne ha
      · exact h1 p hp.1
    · exact h1

/-- A file: its bytes, and how many of them are synced. -/
structure Fil where
  b : List UInt8
  syn : Nat
deriving DecidableEq, Inhabited
/-- A state of files. -/
structure St where
  made : Bool
  on : Bool
  room : Int
  steps : Int
  fuse : Int
  bad : Int
  now : Dir
  last : Dir
  pend : List Chg
  files : List Fil
deriving DecidableEq

def St.new (room : Int) : St := ⟨true, true, room, 0, -1, -1, [], [], [], []⟩
def tick (c : Int) : Int := if c < 0 then c else c - 1
def over (c : Int) : Bool := !decide (c < 0) && decide (c - 1 < 0)
def St.begun (s : St) : St := { s with steps := s.steps + 1, fuse := tick s.fuse, on := !over s.fuse }
def St.size (s : St) (i : Nat) : Nat := (s.files.getD i default).b.length
def used (files : List Fil) (d : Dir) : Nat := (d.map fun p => (files.getD p.2 default).b.length).sum
def isNm (n : Nm) : Bool := decide (1 ≤ n.length) && decide (n.length ≤ 20)
def St.doing (s : St) (c : Chg) : St := { s with now := c.run s.now, pend := s.pend ++ [c] }
def wr (s : St) (act : St → St × Int) : St × Int :=
  if s.on then (let r := act s.begun; (r.1, if s.begun.on then r.2 else 14)) else (s, 14)
def St.bads (s : St) : St := { s with bad := tick s.bad }
def sy (s : St) (act : St → St × Int) : St × Int :=
  if s.on then (if s.begun.on then (if over s.bad then (s.begun.bads, 16) else act s.begun.bads) else (s.begun.bads, 14)) else (s, 14)
def St.more (s : St) : St := { s with files := s.files ++ [⟨[], 0⟩] }
def actCreate (n : Nm) (s : St) : St × Int :=
  if isNm n then (if (dget s.now n).isSome then (s, 8) else (s.more.doing ⟨[], n, some s.files.length⟩, 0)) else (s, 1)
def actAppend (n : Nm) (data : List UInt8) (s : St) : St × Int :=
  match dget s.now n with
  | none => (s, 7)
  | some i => if 0 < s.room ∧ s.room - used s.files s.now < data.length then (s, 10)
    else ({ s with files := s.files.set i ⟨(s.files.getD i default).b ++ data, (s.files.getD i default).syn⟩ }, 0)
def actSync (n : Nm) (s : St) : St × Int :=
  match dget s.now n with
  | none => (s, 7)
  | some i => ({ s with files := s.files.set i ⟨(s.files.getD i default).b, (s.files.getD i default).b.length⟩ }, 0)
def St.settle (s : St) : St := { s with last := s.now, pend := [] }
def actRename (a b : Nm) (s : St) : St × Int :=
  if (dget s.now a).isSome then (if isNm b then (if a = b then (s, 0) else (s.doing ⟨a, b, none⟩, 0)) else (s, 1)) else (s, 7)
def actRemove (n : Nm) (s : St) : St × Int := if (dget s.now n).isSome then (s.doing ⟨n, [], none⟩, 0) else (s, 7)
def St.create (s : St) (n : Nm) : St × Int := wr s (actCreate n)
def St.append (s : St) (n : Nm) (data : List UInt8) : St × Int := wr s (actAppend n data)
def St.sync (s : St) (n : Nm) : St × Int := sy s (actSync n)
def St.syncDir (s : St) : St × Int := sy s fun s => (s.settle, 0)
def St.rename (s : St) (a b : Nm) : St × Int := wr s (actRename a b)
def St.remove (s : St) (n : Nm) : St × Int := wr s (actRemove n)
def St.read (s : St) (n : Nm) : List UInt8 × Int :=
  if s.on then (match dget s.now n with | none => ([], 7) | some i => ((s.files.getD i default).b, 0)) else ([], 14)
def St.names (s : St) : List Nm := if s.on then s.now.map (·.1) else []
/-- x modulo n, from 0 on. -/
def modn (x : Int) (n : Nat) : Nat := (x % (n : Int)).toNat
def Fil.cut (f : Fil) (keep : Int) : Fil := ⟨f.b.take (f.syn + modn keep (f.b.length - f.syn + 1)), f.syn + modn keep (f.b.length - f.syn + 1)⟩
def cuts (files : List Fil) : Dir → List Int → List Fil
  | [], _ => files
  | p :: d, keep => cuts (files.set p.2 ((files.getD p.2 default).cut (keep.headD 0))) d keep.tail
def St.crash (s : St) (dir : Int) (keep : List Int) : St :=
  let d := redo s.last (s.pend.take (modn dir (s.pend.length + 1)))
  { s with on := false, fuse := -1, bad := -1, now := d, last := d, pend := [], files := cuts s.files d keep }
def St.restore (s : St) : St := { s with on := s.made }
end Go.Proofs.YtlgcbapgbpofoaaGreat
