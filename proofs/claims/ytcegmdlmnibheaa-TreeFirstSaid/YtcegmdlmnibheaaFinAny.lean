/- finish, whatever the case; effects that are put together. -/
import Derived.Test.YtcegmdlmnibheaaEff
namespace Go.Proofs.Ytcegmdlmnibheaa
set_option linter.unusedVariables false
set_option linter.unusedSimpArgs false
open Go.RowKit
section
variable {w : World} {own : Own} {tb : Nat} {L : Lay} {t : Tr.T}
def finAny (w : World) (own : Own) (tb : Nat) (L : Lay) (t : Tr.T) (j : Nat) (e : Ending) (w' : World) : Prop :=
  (Tr.finish t j = (t, []) ∧ e = .returned (.slice none 0 0) ∧ Rep w' own tb L t ∧ Below w.heap.size w w') ∨
  ∃ u b L' g cap, Tr.finish t j = (u, [b]) ∧ e = .returned (.slice (some ⟨g, 0, none⟩) 1 cap) ∧ Rep w' own tb L' u ∧ Fr (fun k => own k ≠ none) w w' ∧ w'.ownsRow w.heap.size 76 5 (.slice (some ⟨g, 0, none⟩) 1 cap) 1 (efC b)
theorem finish_any (h : Rep w own tb L t) {j : Nat} {y : Tr.Sc} (hy : t.ss[j]? = some y) (hl : y.tks.length ≤ 1000000) : Calls Try.prog 59 #[scP L (some j)] w (finAny w own tb L t j) := by
  obtain ⟨x, hx⟩ : ∃ x, t.ts[y.own]? = some x := ⟨_, List.getElem?_eq_getElem (h.rng.own j y hy)⟩
  cases he : Tr.ends t j x y with
  | false =>
    refine (finish_no h hy hx hl he).mono fun e w' hp => ?_
    exact .inl ⟨by unfold Tr.finish; simp only [hy, hx, he]; simp, hp⟩
  | true =>
    refine (finish_yes h hy hx hl he).mono fun e w' ⟨L', g, cap, h1, h2, h3, h4⟩ => ?_
    exact .inr ⟨_, _, L', g, cap, by unfold Tr.finish; simp only [hy, hx, he]; rfl, h1, h2, h3, by simpa using h4⟩

/-- The end of a call: effects, one list behind another. -/
theorem eff_end {w9 w10 : World} {own9 : Own} {L9 : Lay} {u : Tr.T} {v1 v' : Value} {es : List Tr.E} {xs : List Value} {n : Nat} (hS : Step w own w9 own9) (hR : Rep w9 own9 tb L9 u) (hG : w9.grownBy w10 v1.ownBlock)
    (h1 : ∀ k, v1.ownBlock = some k → w.heap.size ≤ k ∧ own9 k = none) (hrow : w10.ownsRow w.heap.size 76 5 v' n xs) (hn : n = es.length) (hx : xs = es.flatMap efC) (hat : v'.ownBlock = v1.ownBlock ∨ v'.ownBlock = some w9.heap.size) (hc : ∀ x, v1.ownBlock = some x → ∃ c t f, w9.heap[x]? = some (.cells c t f)) :
    GoneE w own tb u es v' w10 := by
  refine ⟨own9, L9, hR.grown (fun k e => (h1 k e).2) hG hc, hS.keep, (step_grown hS hG (fun k e => (h1 k e).1) hc).fr, by rw [← hn, ← hx]; exact hrow, fun k e => ?_⟩
  rcases hat with h | h
  · exact (h1 k (h ▸ e)).2
  · rw [h] at e; cases e; exact hR.not_own (Nat.le_refl _)
theorem eff_same {w9 : World} {own9 : Own} {L9 : Lay} {u : Tr.T} {v1 : Value} {es : List Tr.E} (hS : Step w own w9 own9) (hR : Rep w9 own9 tb L9 u) (h1 : ∀ k, v1.ownBlock = some k → own9 k = none) (hrow : w9.ownsRow w.heap.size 76 5 v1 es.length (es.flatMap efC)) :
    GoneE w own tb u es v1 w9 := ⟨own9, L9, hR, hS.keep, hS.fr, hrow, h1⟩
end
end Go.Proofs.Ytcegmdlmnibheaa
