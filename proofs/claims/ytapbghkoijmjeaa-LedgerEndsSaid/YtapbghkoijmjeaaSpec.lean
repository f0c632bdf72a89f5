/- A ledger as plain lists: its entries, and what each task holds. -/
import Derived.Test.YtapbghkoijmjeaaBase
namespace Go.Proofs.Ytapbghkoijmjeaa
set_option linter.unusedVariables false
set_option linter.unusedSimpArgs false
open Go.RowKit

/-- An entry. -/
structure Ld.En where
  what : Int
  task : Int
  frm : Int
  to_ : Int
  cr : Bool
  lk : Bool
/-- A ledger: hs k is what task k holds, as positions of entries. -/
structure Ld.T where
  time : Nat
  es : List Ld.En
  hs : Nat → List Nat
def Ld.new : Ld.T := ⟨0, [], fun _ => []⟩
def Ld.setH (t : Ld.T) (k : Nat) (l : List Nat) : Ld.T := { t with hs := fun j => if j = k then l else t.hs j }
def Ld.knows (task : Int) : Bool := decide (1 ≤ task) && decide (task ≤ 64)
def Ld.isWhat (what : Int) : Bool := decide (0 ≤ what) && decide (what ≤ 999)
/-- A new entry. -/
def Ld.add (t : Ld.T) (k : Nat) (what : Int) : Ld.T :=
  ⟨t.time + 1, t.es ++ [⟨what, (k : Int), ((t.time + 1 : Nat) : Int), 0, false, false⟩], fun j => if j = k then t.hs k ++ [t.es.length] else t.hs j⟩
def Ld.acquire (t : Ld.T) (task what : Int) : Ld.T × Int :=
  if (Ld.knows task && Ld.isWhat what) = false then (t, 2)
  else if (t.hs task.toNat).length = 40 ∨ t.es.length = 400 then (t, 5)
  else (Ld.add t task.toNat what, 0)
/-- An entry is released: the time, and what else turns of it. -/
def Ld.relE (t : Ld.T) (a : Nat) (f : Ld.En → Ld.En) : Ld.T :=
  match t.es[a]? with
  | none => t
  | some e => ⟨t.time + 1, t.es.set a (f { e with to_ := ((t.time + 1 : Nat) : Int) }), t.hs⟩
def Ld.crs (b : Bool) (e : Ld.En) : Ld.En := { e with cr := b }
def Ld.leak (e : Ld.En) : Ld.En := { e with lk := true }
/-- The last place of a list that fits. -/
def Ld.lastAt (p : Nat → Bool) : List Nat → Option Nat
  | [] => none
  | x :: r => match Ld.lastAt p r with
    | some i => some (i + 1)
    | none => if p x then some 0 else none
def Ld.fits (t : Ld.T) (what : Int) (at_ : Nat) : Bool := match t.es[at_]? with | none => false | some e => decide (e.what = what)
def Ld.release (t : Ld.T) (task what : Int) : Ld.T × Int :=
  if (Ld.knows task && Ld.isWhat what) = false then (t, 2)
  else match Ld.lastAt (Ld.fits t what) (t.hs task.toNat) with
    | none => (t, 6)
    | some i => (Ld.relE (Ld.setH t task.toNat ((t.hs task.toNat).eraseIdx i)) ((t.hs task.toNat).getD i 0) (Ld.crs (decide (i + 1 < (t.hs task.toNat).length))), 0)
/-- All that is held is released, the last one first. -/
def Ld.drain (k : Nat) : List Nat → Ld.T → Ld.T × List Int
  | [], t => (t, [])
  | a :: r, t =>
    let t1 := Ld.relE (Ld.setH t k r.reverse) a Ld.leak
    ((Ld.drain k r t1).1, (match t.es[a]? with | some e => e.what | none => 0) :: (Ld.drain k r t1).2)
def Ld.end_ (t : Ld.T) (task : Int) : Ld.T × List Int × Int :=
  if Ld.knows task = false then (t, [], 2)
  else ((Ld.drain task.toNat (t.hs task.toNat).reverse t).1, (Ld.drain task.toNat (t.hs task.toNat).reverse t).2, 0)
def Ld.whatOf (t : Ld.T) (a : Nat) : Int := match t.es[a]? with | some e => e.what | none => 0
def Ld.held (t : Ld.T) (task : Int) : List Int × Int :=
  if Ld.knows task = false then ([], 2) else ((t.hs task.toNat).map (Ld.whatOf t), 0)
/-- The positions of entries of a kind. -/
def Ld.hit (p : Ld.En → Bool) (l : List Ld.En) (i : Nat) : Bool := match l[i]? with | some e => p e | none => false
def Ld.which (p : Ld.En → Bool) (l : List Ld.En) : List Nat := (List.range l.length).filter (Ld.hit p l)
def Ld.unsound (e : Ld.En) : Bool := decide (e.to_ = 0) || e.cr || e.lk

/-- What the calls keep. -/
structure Ld.Ok (t : Ld.T) : Prop where
  n400 : t.es.length ≤ 400
  n40 : ∀ k, (t.hs k).length ≤ 40
  time : t.time ≤ 800
  lt : ∀ k a, a ∈ t.hs k → a < t.es.length
end Go.Proofs.Ytapbghkoijmjeaa
