/- Calls in a row. -/
import Derived.Test.YtlibkhndekgnfaaDoorPure
import Derived.Test.YtlibkhndekgnfaaDoorOpsIn
namespace Go.Proofs.YtlibkhndekgnfaaDoor
open Go.RowKit

def steps (c : Cn.St) (l : List Op) : Cn.St := l.foldl step c
theorem steps_succ {c : Cn.St} {l : List Op} {i : Nat} {x : Op} (hx : l[i]? = some x) : steps c (l.take (i + 1)) = step (steps c (l.take i)) x := by
  have hi : i < l.length := (List.getElem?_eq_some_iff.1 hx).1
  rw [List.take_succ_eq_append_getElem hi]
  have e : l[i] = x := by rw [List.getElem?_eq_getElem hi] at hx; exact Option.some.inj hx
  rw [e]
  simp [steps, List.foldl_append]

/-- One more call, in a loop. -/
theorem Own.run {w0 w w' : World} {b : Nat} {ns : List Nat} {c : Cn.St} {x : Op} {e : Ending} (h : Own w0 w b ns c) (hz : w0.heap.size ≤ w.heap.size) (hd : c.dropped < 4611686018427386000) {o : Obj} (hp : runPost (w.alloc o) b ns (step c x) e w') :
    e = .returned (.tuple #[]) ∧ ∃ ns', Own w0 w' b ns' (step c x) ∧ Below w0.heap.size w w' ∧ (∀ y ∈ ns', y ∈ ns ∨ w.heap.size ≤ y) ∧ Fr (b :: ns) w w' ∧ (step c x).dropped ≤ c.dropped + 1 :=
  have ⟨ns', h1, h2, h3, h4⟩ := h.next (step_keeps c x) hd (stepPost.box hp.2) hz
  ⟨hp.1, ns', h1, h2, h3, h4, (step_keeps c x).dr⟩

/-- The call in a round. -/
theorem Own.call {w0 w : World} {b : Nat} {ns : List Nat} {c : Cn.St} (h : Own w0 w b ns c) (x : Op) (hs : x.v.s.size ≤ 9223372036854775807) (o : Obj) :
    Calls Tryd.prog 22 #[.pointer (some ⟨b, 0, none⟩), .agg #[.int .i64 x.kd, .int .i64 x.t, .bool x.send, .int .i64 x.v.k, .int .i64 x.v.n, .string x.v.s]] (w.alloc o) (runPost (w.alloc o) b ns (step c x)) :=
  run_any b ns c x.kd x.t x.send x.v.k x.v.n x.v.s (w.alloc o) (h.rep.alloc o) (h.env.below (one _ _)) h.positive hs h.wl h.dr

end Go.Proofs.YtlibkhndekgnfaaDoor
