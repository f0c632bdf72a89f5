/- The tree as plain lists: tasks and scopes by their places. -/
import Derived.Test.YtcegmdlmnibheaaBase
namespace Go.Proofs.Ytcegmdlmnibheaa
set_option linter.unusedVariables false
set_option linter.unusedSimpArgs false
open Go.RowKit

/-- A fault. -/
structure Tr.F where
  k : Int
  s : ByteArray
def Tr.f0 : Tr.F := ⟨0, ⟨#[]⟩⟩
structure Tr.Tk where
  done : Bool
  flt : Tr.F
  sc : Option Nat
  op : List (Option Nat)
  leav : Bool
  left : Tr.F
structure Tr.Sc where
  done : Bool
  flt : Tr.F
  own : Nat
  sup : Bool
  tks : List Nat
structure Tr.T where
  ts : List Tr.Tk
  ss : List Tr.Sc
def Tr.tk0 (s : Option Nat) : Tr.Tk := ⟨false, Tr.f0, s, [], false, Tr.f0⟩
def Tr.sc0 (i : Nat) (sup : Bool) : Tr.Sc := ⟨false, Tr.f0, i, sup, []⟩

/-- What a number names, and what is wrong with it. -/
def Tr.tk (t : Tr.T) (n : Int) : Option Tr.Tk := if 1 ≤ n then t.ts[(n - 1).toNat]? else none
def Tr.scp (t : Tr.T) (n : Int) : Option Tr.Sc := if 1 ≤ n then t.ss[(n - 1).toNat]? else none
/-- The error of a task that is to run (6), and of one that is to act (22). -/
def Tr.rc (t : Tr.T) (n : Int) : Int := match Tr.tk t n with | none => 6 | some x => if x.done then 6 else 0
def Tr.ac (t : Tr.T) (n : Int) : Int := match Tr.tk t n with | none => 6 | some x => if x.done then 6 else if x.leav then 22 else 0

def Tr.setT (t : Tr.T) (i : Nat) (x : Tr.Tk) : Tr.T := { t with ts := t.ts.set i x }
def Tr.setS (t : Tr.T) (j : Nat) (x : Tr.Sc) : Tr.T := { t with ss := t.ss.set j x }

/-- A new task, in a scope or as a root. -/
def Tr.addT (t : Tr.T) (s : Option Nat) : Tr.T := { t with ts := t.ts ++ [Tr.tk0 s] }
def Tr.hook (t : Tr.T) (s : Option Nat) (i : Nat) : Tr.T :=
  match s with
  | none => t
  | some j => match t.ss[j]? with
    | none => t
    | some y => Tr.setS t j { y with tks := y.tks ++ [i] }
def Tr.add (t : Tr.T) (s : Option Nat) : Tr.T × Int × Int :=
  if 64 ≤ t.ts.length then (t, 0, 5) else (Tr.hook (Tr.addT t s) s t.ts.length, t.ts.length + 1, 0)
def Tr.root (t : Tr.T) : Tr.T × Int × Int := Tr.add t none

/-- Open. -/
def Tr.opened (t : Tr.T) (i : Nat) (x : Tr.Tk) (sup : Bool) : Tr.T :=
  Tr.setT { t with ss := t.ss ++ [Tr.sc0 i sup] } i { x with op := x.op ++ [some t.ss.length] }
def Tr.open_ (t : Tr.T) (n : Int) (sup : Bool) : Tr.T × Int × Int :=
  if Tr.ac t n ≠ 0 then (t, 0, Tr.ac t n) else if 200 ≤ t.ss.length then (t, 0, 5) else
  match Tr.tk t n with
  | none => (t, 0, 6)
  | some x => (Tr.opened t (n - 1).toNat x sup, t.ss.length + 1, 0)
def Tr.shields (x : Tr.Tk) : Nat := x.op.countP (· == none)
def Tr.shield (t : Tr.T) (n : Int) : Tr.T × Int :=
  if Tr.ac t n ≠ 0 then (t, Tr.ac t n) else
  match Tr.tk t n with
  | none => (t, 6)
  | some x => if 40 ≤ Tr.shields x then (t, 5) else (Tr.setT t (n - 1).toNat { x with op := x.op ++ [none] }, 0)
def Tr.unlink (x : Tr.Tk) : Tr.Tk := { x with op := x.op.dropLast }
def Tr.unveil (t : Tr.T) (n : Int) : Tr.T × Int :=
  if Tr.ac t n ≠ 0 then (t, Tr.ac t n) else
  match Tr.tk t n with
  | none => (t, 6)
  | some x => if x.op.getLast? = some none then (Tr.setT t (n - 1).toNat (Tr.unlink x), 0) else (t, 22)
/-- The innermost scope. -/
def Tr.inner : List (Option Nat) → Option Nat
  | [] => none
  | s :: r => match Tr.inner r with | some j => some j | none => s
def Tr.spawn (t : Tr.T) (n : Int) : Tr.T × Int × Int :=
  if Tr.ac t n ≠ 0 then (t, 0, Tr.ac t n) else
  match Tr.tk t n with
  | none => (t, 0, 6)
  | some x => match Tr.inner x.op with
    | none => (t, 0, 22)
    | some j => Tr.add t (some j)

/-! ### faults -/
def Tr.okB (c : UInt8) : Bool := decide (32 ≤ (c.toNat : Int)) && decide ((c.toNat : Int) ≤ 126)
def Tr.textB (l : List UInt8) : Bool := decide (l.length ≤ 60) && l.all Tr.okB
def Tr.validB (f : Tr.F) : Bool := if f.k = 0 ∨ f.k = 2 then f.s.toList == [] else if f.k = 1 then Tr.textB f.s.data.toList else false

/-- An effect. -/
structure Tr.E where
  k : Int
  n : Int
  m : Int
  f : Tr.F
def Tr.eScope (j : Nat) : Tr.E := ⟨1, (j : Int) + 1, 0, Tr.f0⟩
def Tr.eLeft (i j : Nat) (f : Tr.F) : Tr.E := ⟨3, (i : Int) + 1, (j : Int) + 1, f⟩

/-- A scope takes a fault. -/
def Tr.takes (y : Tr.Sc) : Bool := y.flt.k == 0
def Tr.taken (y : Tr.Sc) (f : Tr.F) : Tr.Sc := if y.flt.k = 0 then { y with flt := f } else y
def Tr.take (t : Tr.T) (j : Nat) (f : Tr.F) : Tr.T := match t.ss[j]? with | none => t | some y => Tr.setS t j (Tr.taken y f)
def Tr.busyL (t : Tr.T) (l : List Nat) : List Nat := l.filter fun i => match t.ts[i]? with | none => false | some x => !x.done
def Tr.busy (t : Tr.T) (y : Tr.Sc) : Bool := !(Tr.busyL t y.tks).isEmpty
/-- The fault of a scope that is over. -/
def Tr.lastF (y : Tr.Sc) (x : Tr.Tk) : Tr.F := if y.flt.k = 0 then x.left else y.flt
def Tr.over (t : Tr.T) (i j : Nat) (x : Tr.Tk) (y : Tr.Sc) : Tr.T :=
  Tr.setT (Tr.setS t j { y with done := true }) i { x with op := x.op.dropLast, leav := false, left := Tr.f0 }
def Tr.ends (t : Tr.T) (j : Nat) (x : Tr.Tk) (y : Tr.Sc) : Bool := x.leav && decide (x.op.getLast? = some (some j)) && !Tr.busy t y
def Tr.finish (t : Tr.T) (j : Nat) : Tr.T × List Tr.E :=
  match t.ss[j]? with
  | none => (t, [])
  | some y => match t.ts[y.own]? with
    | none => (t, [])
    | some x => if Tr.ends t j x y then (Tr.over t y.own j x y, [Tr.eLeft y.own j (Tr.lastF y x)]) else (t, [])

/-- Fail. -/
def Tr.fail (t : Tr.T) (n : Int) (f : Tr.F) : Tr.T × List Tr.E × Int :=
  match Tr.scp t n with
  | none => (t, [], 6)
  | some y => if y.done then (t, [], 6) else if Tr.validB f && decide (f.k = 1) then
      (if Tr.takes y then (Tr.take t (n - 1).toNat f, [Tr.eScope (n - 1).toNat], 0) else (t, [], 0))
    else (t, [], 2)
/-- Leave. -/
def Tr.leave (t : Tr.T) (n : Int) (f : Tr.F) : Tr.T × List Tr.E × Int :=
  if Tr.rc t n ≠ 0 then (t, [], Tr.rc t n) else if Tr.validB f = false then (t, [], 2) else
  match Tr.tk t n with
  | none => (t, [], 6)
  | some x => match x.op.getLast? with
    | some (some j) => if x.leav then (t, [], 22) else
        let t1 := if f.k = 1 then Tr.take t j f else t
        let es := match t1.ss[j]? with | none => [] | some y => if f.k ≠ 0 ∧ Tr.busy t1 y = true then [Tr.eScope j] else []
        let t2 := Tr.setT t1 (n - 1).toNat { x with leav := true, left := f }
        ((Tr.finish t2 j).1, es ++ (Tr.finish t2 j).2, 0)
    | _ => (t, [], 22)
/-- End. -/
def Tr.end_ (t : Tr.T) (n : Int) (f : Tr.F) : Tr.T × List Tr.E × Int :=
  if Tr.rc t n ≠ 0 then (t, [], Tr.rc t n) else if Tr.validB f = false then (t, [], 2) else
  match Tr.tk t n with
  | none => (t, [], 6)
  | some x => if x.op ≠ [] then (t, [], 22) else
    let t1 := Tr.setT t (n - 1).toNat { x with done := true, flt := f }
    match x.sc with
    | none => (t1, [], 0)
    | some j => match t1.ss[j]? with
      | none => (t1, [], 0)
      | some y => if f.k = 1 ∧ y.sup = false ∧ y.flt.k = 0 then
          ((Tr.finish (Tr.take t1 j f) j).1, Tr.eScope j :: (Tr.finish (Tr.take t1 j f) j).2, 0)
        else ((Tr.finish t1 j).1, (Tr.finish t1 j).2, 0)
/-- New. -/
def Tr.new (n : Nat) : Tr.T := ⟨List.replicate n (Tr.tk0 none), []⟩
end Go.Proofs.Ytcegmdlmnibheaa
