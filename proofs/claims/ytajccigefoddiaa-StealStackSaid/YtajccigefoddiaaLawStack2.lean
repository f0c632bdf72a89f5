/- StealStack, for every input. -/
import Derived.Test.YtajccigefoddiaaLawStack
namespace Go.Proofs.Ytajccigefoddiaa
set_option linter.unusedVariables false
set_option linter.unusedSimpArgs false
open Go.RowKit Go.Shelf
open St
theorem stk_all (room : Nat) (l : List Int) (k : Nat) (h : l.length = k) : stk room l k = l.foldl (stkStep room) ([], []) := by
  unfold stk; rw [← h, List.take_length]
theorem law_stack_c (r : Int) (v1 : Value) (w : World) (hr : (Lit.int .i64 r).wf = true) (h1 : IntsArg w v1) : Calls Try.prog 6 #[.int .i64 r, v1] w fun e w' => e = .returned (.bool true) ∧ Below w.heap.size w w' := by
  obtain ⟨p, cp, lo, rfl, a1, a2, a3⟩ := h1
  have hkn : (lo.take 62).length = min lo.length 62 := by rw [List.length_take]; omega
  have hk62 : min lo.length 62 ≤ 62 := by omega
  have htk : (lo.take 62).take 62 = lo.take 62 := List.take_of_length_le (by omega)
  have hnil : ∀ W, NumsAt W none [] := fun W h => by simp at h
  have hC : ∀ W, Below w.heap.size w W → Calls Try.prog 13 #[.agg #[.int .i64 r, .slice p lo.length cp, .slice none 0 0]] W fun e w' => ∃ p' q' cp' cq', e = .returned (.agg #[.int .i64 r, .slice p' (min lo.length 62) cp', .slice q' 0 cq']) ∧ PlanIn w' r p' q' cp' cq' (lo.take 62) [] ∧ Below W.heap.size W w' := fun W hW => by
    refine (clipped_any W r p none cp 0 lo [] ⟨a1, a2, by simp, by simp [maxLen], a3.below hW, hnil W⟩).mono fun e w' h => ?_
    obtain ⟨p', q', cp', cq', e1, hI, hb⟩ := h
    exact ⟨p', q', cp', cq', e1, hI.1, hb⟩
  have hM : ∀ W p' q' cp' cq', PlanIn W r p' q' cp' cq' (lo.take 62) [] → Calls Try.prog 12 #[.agg #[.int .i64 r, .slice p' (min lo.length 62) cp', .slice q' 0 cq']] W (newPost W r (lo.take 62) []) := fun W p' q' cp' cq' hP => by
    have := made_any W r p' q' cp' cq' _ _ hP
    rw [htk, hkn] at this
    exact this
  refine stk_core w r p lo.length cp (min lo.length 62) (lo.take 62) (Lib.hid hkn) hk62 (Lib.hid hC) (Lib.hid fun W p' q' cp' cq' hW hP => ?_)
  refine (hM W p' q' cp' cq' hP).mono fun e w' h => ?_
  unfold newPost at h
  by_cases hok : St.okPlan r (lo.take 62) [] = true
  · rw [if_pos hok] at h
    obtain ⟨rb, cb, own, ab, cap, rfl, hO⟩ := h
    have hr0 : 0 ≤ r := by have := (okPlan_parts hok).1; omega
    refine .inr ⟨rb, rfl, hr0, hO.bel, ?_⟩
    have hov := over_all hok []
    have hend := stack_end hok []
    refine (played_any ⟨hO, [], inv_mk hok⟩ (fun a _ => gotOf_mk _ _ _ _) none 0 [] (Nat.le_refl _) (Nat.zero_le _) (hnil _)).mono fun e w2 h2 => ?_
    obtain ⟨own2, pp, cc, rfl, hR, hrow, _⟩ := h2
    rw [List.nil_append] at hov hend
    have e1 : ([] : List Int).take 600 ++ tailL 9 = tailL 9 := by rw [List.take_nil, List.nil_append]
    rw [e1] at hR ⊢
    generalize lgPlays (St.mkT r (lo.take 62) [], []) (tailL 9) = Z at hR hov hend ⊢
    refine ⟨hR.ow.bel, pp, _, cc, by rw [hov], fun W' hW' => ?_⟩
    have hR' := hR.below hW'
    rw [stk_all _ _ _ hkn, ← hend]
    have g1 := hR'.gotC 0
    have g2 := hR'.restC
    exact ⟨g1, g2⟩
  · rw [if_neg hok] at h
    exact .inl h
end Go.Proofs.Ytajccigefoddiaa
