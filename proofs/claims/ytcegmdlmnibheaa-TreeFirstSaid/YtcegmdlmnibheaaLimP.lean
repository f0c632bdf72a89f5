/- The limits are kept by every call. -/
import Derived.Test.YtcegmdlmnibheaaLim
namespace Go.Proofs.Ytcegmdlmnibheaa
set_option linter.unusedVariables false
set_option linter.unusedSimpArgs false
open Go.RowKit
section
variable {t : Tr.T}
theorem Lim.setT (h : Lim t) {i : Nat} {x x' : Tr.Tk} (hx : t.ts[i]? = some x) (ho : Tr.shields x' ≤ 40 ∧ x'.op.length ≤ Tr.shields x' + t.ss.length) : Lim (Tr.setT t i x') := by
  refine ⟨by simpa [Tr.setT] using h.n, h.m, fun j y e => by simpa [Tr.setT] using h.k j y e, fun k z e => ?_⟩
  rcases set_at e with ⟨rfl, rfl⟩ | ⟨_, e⟩
  · exact ho
  · exact h.o k z e
theorem Lim.setS (h : Lim t) {j : Nat} {y y' : Tr.Sc} (hy : t.ss[j]? = some y) (hk : y'.tks.length ≤ t.ts.length) : Lim (Tr.setS t j y') := by
  refine ⟨h.n, by simpa [Tr.setS] using h.m, fun k z e => ?_, fun k z e => by simpa [Tr.setS] using h.o k z e⟩
  rcases set_at e with ⟨rfl, rfl⟩ | ⟨_, e⟩
  · exact hk
  · exact h.k k z e
theorem Lim.same (h : Lim t) {i : Nat} {x x' : Tr.Tk} (hx : t.ts[i]? = some x) (ho : x'.op = x.op) : Lim (Tr.setT t i x') := by
  have := h.o i x hx
  exact h.setT hx (by unfold Tr.shields at *; rw [ho]; exact this)
theorem Lim.add (h : Lim t) (s : Option Nat) : Lim (Tr.add t s).1 := by
  unfold Tr.add
  split
  · exact h
  · have h1 : Lim (Tr.addT t s) := by
      refine ⟨by simp [Tr.addT]; omega, h.m, fun j y e => by have := h.k j y e; simp [Tr.addT]; omega, fun i x e => ?_⟩
      rcases snoc_at e with ⟨_, rfl⟩ | ⟨_, e⟩
      · simp [Tr.tk0, Tr.shields]
      · exact h.o i x e
    unfold Tr.hook
    cases s with
    | none => exact h1
    | some j =>
      cases hy : (Tr.addT t (some j)).ss[j]? with
      | none => simpa [hy] using h1
      | some y =>
        simp only [hy]
        exact h1.setS hy (by have := h.k j y hy; simp [Tr.addT]; omega)
theorem Lim.open_ (h : Lim t) (n : Int) (sup : Bool) : Lim (Tr.open_ t n sup).1 := by
  unfold Tr.open_
  split
  · exact h
  · split
    · exact h
    · split
      · exact h
      · rename_i x hx
        obtain ⟨i, rfl, hi⟩ := tk_some hx
        simp only [to_i]
        have h1 : Lim { t with ss := t.ss ++ [Tr.sc0 i sup] } := by
          refine ⟨h.n, by simp; omega, fun j y e => ?_, fun k z e => ?_⟩
          · rcases snoc_at e with ⟨_, rfl⟩ | ⟨_, e⟩
            · simp [Tr.sc0]
            · exact h.k j y e
          · have := h.o k z e; simp; omega
        unfold Tr.opened
        refine h1.setT (x := x) hi ?_
        have := h.o i x hi
        simp [Tr.shields, List.countP_append, List.countP_cons] at this ⊢
        omega
theorem Lim.unlink (h : Lim t) {i : Nat} {x x' : Tr.Tk} (hx : t.ts[i]? = some x) (ho : x'.op = x.op.dropLast) : Lim (Tr.setT t i x') := by
  have := h.o i x hx
  refine h.setT hx ?_
  unfold Tr.shields at *
  rw [ho]
  cases hl : x.op.getLast? with
  | none =>
    have : x.op = [] := by simpa using hl
    simp [this]
  | some s =>
    have hne : x.op ≠ [] := fun e => by rw [e] at hl; cases hl
    have e := List.dropLast_concat_getLast hne
    have e2 : x.op.getLast hne = s := by rw [List.getLast?_eq_some_getLast hne] at hl; exact Option.some.inj hl
    rw [e2] at e
    have h1 : x.op.countP (· == none) = x.op.dropLast.countP (· == none) + if s == none then 1 else 0 := by
      conv => lhs; rw [← e]
      rw [List.countP_append, List.countP_cons]; simp
    have h2 : x.op.length = x.op.dropLast.length + 1 := by conv => lhs; rw [← e]
                                                           simp
    cases s <;> simp at h1 this ⊢ <;> omega
theorem Lim.shield (h : Lim t) (n : Int) : Lim (Tr.shield t n).1 := by
  unfold Tr.shield
  split
  · exact h
  · split
    · exact h
    · rename_i x hx
      obtain ⟨i, rfl, hi⟩ := tk_some hx
      simp only [to_i]
      split
      · exact h
      · refine h.setT hi ?_
        have := h.o i x hi
        rename_i h40
        simp [Tr.shields, List.countP_append, List.countP_cons] at this h40 ⊢
        omega
theorem Lim.unveil (h : Lim t) (n : Int) : Lim (Tr.unveil t n).1 := by
  unfold Tr.unveil
  split
  · exact h
  · split
    · exact h
    · rename_i x hx
      obtain ⟨i, rfl, hi⟩ := tk_some hx
      simp only [to_i]
      split
      · exact h.unlink hi rfl
      · exact h
theorem Lim.spawn (h : Lim t) (n : Int) : Lim (Tr.spawn t n).1 := by
  unfold Tr.spawn
  split
  · exact h
  · split
    · exact h
    · split
      · exact h
      · exact h.add _
theorem Lim.take (h : Lim t) (j : Nat) (f : Tr.F) : Lim (Tr.take t j f) := by
  unfold Tr.take
  split
  · exact h
  · rename_i y hy
    exact h.setS hy (by have := h.k j y hy; unfold Tr.taken; split <;> exact this)
theorem Lim.fail (h : Lim t) (n : Int) (f : Tr.F) : Lim (Tr.fail t n f).1 := by
  unfold Tr.fail
  split
  · exact h
  · split
    · exact h
    · split
      · split
        · exact h.take _ _
        · exact h
      · exact h
theorem Lim.finish (h : Lim t) (j : Nat) : Lim (Tr.finish t j).1 := by
  unfold Tr.finish
  split
  · exact h
  · rename_i y hy
    split
    · exact h
    · rename_i x hx
      split
      · unfold Tr.over
        have h1 : Lim (Tr.setS t j { y with done := true }) := h.setS hy (h.k j y hy)
        exact h1.unlink (x := x) hx rfl
      · exact h
theorem Lim.leave (h : Lim t) (n : Int) (f : Tr.F) : Lim (Tr.leave t n f).1 := by
  unfold Tr.leave
  split
  · exact h
  · split
    · exact h
    · split
      · exact h
      · rename_i x hx
        obtain ⟨i, rfl, hi⟩ := tk_some hx
        simp only [to_i]
        split
        · split
          · exact h
          · rename_i j _ _
            simp only
            refine Lim.finish ?_ j
            split
            · have hi' : (Tr.take t j f).ts[i]? = some x := by unfold Tr.take; split <;> exact hi
              exact (h.take j f).same hi' rfl
            · exact h.same hi rfl
        · exact h
theorem Lim.end_ (h : Lim t) (n : Int) (f : Tr.F) : Lim (Tr.end_ t n f).1 := by
  unfold Tr.end_
  split
  · exact h
  · split
    · exact h
    · split
      · exact h
      · rename_i x hx
        obtain ⟨i, rfl, hi⟩ := tk_some hx
        simp only [to_i]
        split
        · exact h
        · have h1 : Lim (Tr.setT t i { x with done := true, flt := f }) := h.same hi rfl
          split
          · exact h1
          · split
            · exact h1
            · split
              · exact (h1.take _ _).finish _
              · exact h1.finish _
theorem Lim.new {n : Nat} (h : n ≤ 64) : Lim (Tr.new n) :=
  ⟨by simpa [Tr.new] using h, by simp [Tr.new], fun j y e => by simp [Tr.new] at e, fun i x e => by
    have := List.mem_of_getElem? e
    simp [Tr.new] at this
    rw [this.2]; simp [Tr.tk0, Tr.shields]⟩
end
end Go.Proofs.Ytcegmdlmnibheaa
