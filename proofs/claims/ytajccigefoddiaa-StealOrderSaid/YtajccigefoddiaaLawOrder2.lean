/- StealOrder, for every input. -/
import Derived.Test.YtajccigefoddiaaLawOrder
namespace Go.Proofs.Ytajccigefoddiaa
set_option linter.unusedVariables false
set_option linter.unusedSimpArgs false
open Go.RowKit Go.Shelf
open St
theorem law_order_c (r : Int) (v1 v2 : Value) (w : World) (hr : (Lit.int .i64 r).wf = true) (h1 : IntsArg w v1) (h2 : IntsArg w v2) : Calls Try.prog 5 #[.int .i64 r, v1, v2] w fun e w' => e = .returned (.bool true) ∧ Below w.heap.size w w' := by
  obtain ⟨p, cp, lo, rfl, a1, a2, a3⟩ := h1
  obtain ⟨p2, c2, l2, rfl, g1, g2, g3⟩ := h2
  have hkn : (lo.take 62).length = min lo.length 62 := by rw [List.length_take]; omega
  have hk62 : min lo.length 62 ≤ 62 := by omega
  have hrl : (relab 0 (lo.take 62)).length = min lo.length 62 := by rw [relab_length, hkn]
  have htk : (relab 0 (lo.take 62)).take 62 = relab 0 (lo.take 62) := List.take_of_length_le (by omega)
  have hC : ∀ W q, Below w.heap.size w W → NumsAt W q [30, 30, 30] → Calls Try.prog 13 #[.agg #[.int .i64 r, .slice p lo.length cp, .slice q 3 3]] W fun e w' => ∃ p' q' cp' cq', e = .returned (.agg #[.int .i64 r, .slice p' (min lo.length 62) cp', .slice q' 3 cq']) ∧ Ins w.heap.size w' r p' q' cp' cq' (lo.take 62) [30, 30, 30] ∧ Below W.heap.size W w' := fun W q hW hq => by
    refine (clipped2_any W r p q cp 3 lo [30, 30, 30] ⟨a1, a2, by simp, by simp [maxLen], a3.below hW, hq⟩).mono fun e w' h => ?_
    obtain ⟨p', q', cp', cq', e1, hI, hb⟩ := h
    exact ⟨p', q', cp', cq', e1, hI.base (Nat.le_trans hW.size (Nat.le_add_right _ _)), hb⟩
  have hM : ∀ W p' q' cp' cq', PlanIn W r p' q' cp' cq' (relab 0 (lo.take 62)) [30, 30, 30] → Calls Try.prog 12 #[.agg #[.int .i64 r, .slice p' (min lo.length 62) cp', .slice q' 3 cq']] W (newPost W r (relab 0 (lo.take 62)) [30, 30, 30]) := fun W p' q' cp' cq' hP => by
    have := made_any W r p' q' cp' cq' _ _ hP
    rw [htk, hrl] at this
    exact this
  by_cases hok : St.okPlan r (relab 0 (lo.take 62)) [30, 30, 30] = true
  · have hlen : (lgPlays (St.mkT r (relab 0 (lo.take 62)) [30, 30, 30], []) (l2.take 600 ++ tailL 9)).2.length ≤ 100000 := by
      refine Nat.le_trans (lgPlays_len _ _) ?_
      rw [List.length_append, tailL_len, List.length_take]
      show 0 + _ ≤ _
      omega
    have hov := over_all hok (l2.take 600)
    have hinc := order_mk hok (relab_inc 0 (Int.le_refl _) _) (l2.take 600 ++ tailL 9)
    have hpl : ∀ (w1 : World) (rb cb : Nat) (own : Own) (ab cap : Nat) (ws : World), Below w.heap.size w w1 → Rn w1 own rb cb ab cap (St.mkT r (relab 0 (lo.take 62)) [30, 30, 30]) ws → Calls Try.prog 20 #[ptr rb, .slice p2 l2.length c2] ws (playedPost w1 rb cb ab cap (lgPlays (St.mkT r (relab 0 (lo.take 62)) [30, 30, 30], []) (l2.take 600 ++ tailL 9))) := fun w1 rb cb own ab cap ws hb hO => played_any hO (fun a _ => gotOf_mk _ _ _ _) p2 c2 l2 g1 g2 (g3.below hb)
    generalize lgPlays (St.mkT r (relab 0 (lo.take 62)) [30, 30, 30], []) (l2.take 600 ++ tailL 9) = S at hlen hov hinc hpl
    refine ord_core w r p p2 lo.length cp l2.length c2 (min lo.length 62) (lo.take 62) (Lib.hid hkn) hk62 S.2 hlen (Lib.hid hinc) (Lib.hid hC) (Lib.hid fun W p' q' cp' cq' hW hP => ?_)
    refine (hM W p' q' cp' cq' hP).mono fun e w' h => ?_
    unfold newPost at h
    rw [if_pos hok] at h
    obtain ⟨rb, cb, own, ab, cap, rfl, hO⟩ := h
    refine .inr ⟨rb, rfl, hO.bel, ?_⟩
    refine (hpl W rb cb own ab cap w' hW ⟨hO, [], inv_mk hok⟩).mono fun e w2 h2 => ?_
    obtain ⟨own2, pp, cc, rfl, hR, hrow, _⟩ := h2
    exact ⟨hW.trans (hR.ow.bel.mono hW.size), pp, cc, by rw [hov], pairs_at hrow⟩
  · refine ord_core w r p p2 lo.length cp l2.length c2 (min lo.length 62) (lo.take 62) (Lib.hid hkn) hk62 [] (by simp) (Lib.hid (by simp [stl])) (Lib.hid hC) (Lib.hid fun W p' q' cp' cq' hW hP => ?_)
    refine (hM W p' q' cp' cq' hP).mono fun e w' h => ?_
    unfold newPost at h
    rw [if_neg hok] at h
    exact .inl h
end Go.Proofs.Ytajccigefoddiaa
