/- StealCopies, for every input. -/
import Derived.Test.YtajccigefoddiaaLawCopies
import Derived.Test.YtajccigefoddiaaFrameP
namespace Go.Proofs.Ytajccigefoddiaa
set_option linter.unusedVariables false
set_option linter.unusedSimpArgs false
open Go.RowKit Go.Shelf
open St
theorem law_copies_c (v0 v1 v2 : Value) (w : World) (h0 : PlanArg w v0) (h1 : IntsArg w v1) (h2 : IntsArg w v2) : Calls Try.prog 8 #[v0, v1, v2] w fun e w' => e = .returned (.bool true) ∧ Below w.heap.size w w' := by
  obtain ⟨r, p, q, cp, cq, lo, lt, rfl, hP⟩ := h0
  obtain ⟨p1, c1, l1, rfl, g1, g2, g3⟩ := h1
  obtain ⟨p2, c2, l2, rfl, f1, f2, f3⟩ := h2
  refine cop_core w r p q p1 p2 lo.length lt.length cp cq l1.length c1 l2.length c2 (min l1.length 100) (min l2.length 100) (l1.take 100) (l2.take 100) (Lib.hid (by rw [List.length_take]; omega)) (Lib.hid (by rw [List.length_take]; omega)) (by omega) (by omega) (by omega) (by omega) (by omega) (by omega) (Lib.hid (g3.take 100)) (Lib.hid (f3.take 100)) (Lib.hid fun o => ⟨w.alloc o, one w o, ?_⟩)
  refine (made_any (w.alloc o) r p q cp cq lo lt (hP.below (one _ _))).mono fun e w' h => ?_
  by_cases hok : St.okPlan r (lo.take 62) (lt.take 10) = true
  · unfold newPost at h
    rw [if_pos hok] at h
    obtain ⟨rb, cb, own, ab, cap, rfl, hO⟩ := h
    exact .inr ⟨rb, own, cb, ab, cap, _, rfl, hO, [], inv_mk hok⟩
  · have h' := h.from_ (one w o)
    unfold newPost at h'
    rw [if_neg hok] at h'
    exact .inl h'
end Go.Proofs.Ytajccigefoddiaa
