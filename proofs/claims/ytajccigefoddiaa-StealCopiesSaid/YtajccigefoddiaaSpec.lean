/- A race as plain data: the deque, its actors, and what a step does. -/
import Derived.Test.YtajccigefoddiaaBase
namespace Go.Proofs.Ytajccigefoddiaa
set_option linter.unusedVariables false
set_option linter.unusedSimpArgs false
open Go.RowKit
namespace St
inductive Op where
  | push (x : Int)
  | take
  | theft
/-- What an actor does next. -/
inductive Ph where
  | look (x : Int)
  | write (x : Int)
  | raise (x : Int)
  | lower
  | compare
  | readLast
  | last (t : Nat) (x : Int)
  | aim
  | bound (t : Nat)
  | reach (t : Nat)
  | claim (t : Nat) (x : Int)
structure Dq where
  cells : List Int
  top : Nat
  bottom : Int
def Dq.place (d : Dq) (p : Nat) : Nat := p % d.cells.length
def Dq.cell (d : Dq) (p : Nat) : Int := d.cells.getD (d.place p) 0
def Op.first : Op → Ph
  | .push x => .look x
  | .take => .lower
  | .theft => .aim
/-- A step: the deque behind it, what comes next, and the result where nothing does. -/
def Ph.run (d : Dq) : Ph → Dq × Option Ph × Int
  | .look x => if d.bottom - d.top = d.cells.length then (d, none, -1) else (d, some (.write x), 0)
  | .write x => ({ d with cells := d.cells.set (d.place d.bottom.toNat) x }, some (.raise x), 0)
  | .raise x => ({ d with bottom := d.bottom + 1 }, none, x)
  | .lower => ({ d with bottom := d.bottom - 1 }, some .compare, 0)
  | .compare =>
    if d.bottom < d.top then ({ d with bottom := d.top }, none, 0)
    else if (d.top : Int) < d.bottom then (d, none, d.cell d.bottom.toNat)
    else (d, some .readLast, 0)
  | .readLast => (d, some (.last d.bottom.toNat (d.cell d.bottom.toNat)), 0)
  | .last t x => if d.top = t then ({ d with top := t + 1, bottom := t + 1 }, none, x) else ({ d with bottom := t + 1 }, none, 0)
  | .aim => (d, some (.bound d.top), 0)
  | .bound t => if d.bottom ≤ t then (d, none, 0) else (d, some (.reach t), 0)
  | .reach t => (d, some (.claim t (d.cell t)), 0)
  | .claim t x => if d.top = t then ({ d with top := t + 1 }, none, x) else (d, none, -1)
structure Ac where
  todo : List Op
  next : Option Ph
  got : List Int
def Ac.done (a : Ac) : Bool := a.next.isNone && a.todo.isEmpty
/-- What an actor is at, and what is left behind it. -/
def Ac.at (a : Ac) : Option (Ph × List Op) := match a.next, a.todo with
  | some p, l => some (p, l)
  | none, o :: l => some (o.first, l)
  | none, [] => none
def Ac.step (d : Dq) (a : Ac) : Option (Dq × Ac) := match a.at with
  | none => none
  | some (p, l) =>
    let r := p.run d
    some (r.1, ⟨l, r.2.1, if r.2.1.isNone then a.got ++ [r.2.2] else a.got⟩)
structure T where
  d : Dq
  acts : List Ac
def T.step (t : T) (i : Int) : T × Bool :=
  if i < 0 then (t, false) else match t.acts[i.toNat]? with
  | none => (t, false)
  | some a => match a.step t.d with
    | none => (t, false)
    | some (d, a') => (⟨d, t.acts.set i.toNat a'⟩, true)
end St
end Go.Proofs.Ytajccigefoddiaa
