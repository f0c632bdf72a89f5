/- A range over a method of a value: the statement comes to the one call of the method, with a loop's record and a block for deferred calls laid. -/
import Derived.Test.YtbhknpombmdhiaaDoorIter
namespace Go.Proofs.YtbhknpombmdhiaaDoor
open Go.RowKit Go.Shelf

theorem range_bound {g : Operand} {ps : Array Tmp} {assign body : Code} {Q : Exit → Act → World → Prop} {a : Act} {w : World} {n : Nat} {rcv : Value} {gf : Nat}
    (hg : a.eval g = .func (.func gf) #[rcv] #[]) (eg : ∀ args w, (callFunc gf args).run Tryd.prog w = .ok (.enter gf args) w)
    (h : ∀ rec : Loop, rec.state = .ready → rec.pending = none → rec.tmps = a.tmps → rec.params = ps → rec.assign = assign → rec.body = body → CallsIn Fence.wide (n - 1) Tryd.prog gf #[rcv, .func (.yield (w.heap.size + 1)) #[] #[]]
      ((w.alloc (.deferred (some []))).alloc (.loop rec))
      (rangePost Fence.wide n Tryd.prog (w.heap.size + 1) Q { a with defers := [{ target := .collected w.heap.size, args := #[] }] ++ a.defers })) :
    (Code.rangeFunc g ps assign body).wpIn Fence.wide n Tryd.prog Q a w := by
  refine wpIn_rangeFunc ?_
  intro fn hfn
  obtain ⟨W1, hW1⟩ : ∃ W1, (w.alloc (.deferred (some []))).alloc (.loop { state := .ready, pending := none, fn, tmps := a.tmps, params := ps, assign, body, defers := w.heap.size }) = W1 := ⟨_, rfl⟩
  have h1 := h { state := .ready, pending := none, fn, tmps := a.tmps, params := ps, assign, body, defers := w.heap.size } rfl rfl rfl rfl rfl rfl
  rw [hW1] at h1
  refine ⟨w.heap.size + 1, [{ target := .collected w.heap.size, args := #[] }], W1, { target := .fn (.func gf) #[], args := #[rcv, .func (.yield (w.heap.size + 1)) #[] #[]] }, W1, gf,
    #[rcv, .func (.yield (w.heap.size + 1)) #[] #[]], W1, ?_, ?_, ?_, ?_, ?_, h1⟩
  · rw [← hW1]; exact run_enterLoop_outer _ _ _ _ _
  · simp only [resolve, hg]
    simp [go_sem]
  · intro f' _; trivial
  · simp [invoke, go_sem, eg]
  · intro h; exact nomatch h

end Go.Proofs.YtbhknpombmdhiaaDoor
