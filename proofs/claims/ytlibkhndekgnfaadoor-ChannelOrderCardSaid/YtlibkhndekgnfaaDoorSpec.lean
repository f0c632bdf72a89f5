/- A channel, plainly: its state, and what each call makes of it. -/
import Derived.Test.YtlibkhndekgnfaaDoorBase
namespace Go.Proofs.YtlibkhndekgnfaaDoor
open Go.RowKit

namespace Cn
/-- A value. -/
structure V where
  k : Int
  n : Int
  s : ByteArray
/-- One that waits. -/
structure Wt where
  t : Int
  send : Bool
  v : V
/-- A deal: whose, with which value; from a channel that was closed, or not. -/
structure Dl where
  who : Int
  v : V
  cl : Bool
/-- A channel's state. -/
structure St where
  cap : Nat
  pol : Int
  closed : Bool
  buf : List V
  wait : List Wt
  dropped : Nat

def zero : V := ⟨0, 0, ⟨#[]⟩⟩

/-- The first one that is right, and the others. -/
def pick (p : Wt → Bool) : List Wt → Option (Wt × List Wt)
  | [] => none
  | w :: r => if p w then some (w, r) else (pick p r).map fun x => (x.1, w :: x.2)

def isR (w : Wt) : Bool := !w.send
def isS (w : Wt) : Bool := w.send

/-- What a send does that meets no receiver: the state, and whether it is done. -/
def store (c : St) (v : V) : St × Bool :=
  if c.buf.length < c.cap then ({ c with buf := c.buf ++ [v] }, true)
  else if c.pol = 0 then (c, false)
  else if c.pol = 1 ∧ 0 < c.cap then ({ c with buf := c.buf.tail ++ [v], dropped := c.dropped + 1 }, true)
  else ({ c with dropped := c.dropped + 1 }, true)

/-- Offer of a valid value: the state, the deals, is there the fault, is it done. -/
def offer (c : St) (v : V) : St × List Dl × Bool × Bool :=
  if c.closed then (c, [], true, true)
  else match pick isR c.wait with
    | some (w, r) => ({ c with wait := r }, [⟨w.t, v, false⟩], false, true)
    | none => ((store c v).1, [], false, (store c v).2)

/-- Take: the state, the value, the deals, is there the fault, is it done. -/
def take (c : St) : St × V × List Dl × Bool × Bool :=
  match c.buf, pick isS c.wait with
  | v :: r, some (w, q) => ({ c with buf := r ++ [w.v], wait := q }, v, [⟨w.t, zero, false⟩], false, true)
  | v :: r, none => ({ c with buf := r }, v, [], false, true)
  | [], some (w, q) => ({ c with wait := q }, w.v, [⟨w.t, zero, false⟩], false, true)
  | [], none => if c.closed then (c, zero, [], true, true) else (c, zero, [], false, false)
end Cn
end Go.Proofs.YtlibkhndekgnfaaDoor
