/- StealOnce, for every input. -/
import Derived.Test.YtajccigefoddiaaLawOnce
namespace Go.Proofs.Ytajccigefoddiaa
set_option linter.unusedVariables false
set_option linter.unusedSimpArgs false
open Go.RowKit Go.Shelf
open St
theorem law_once_c (v0 v1 : Value) (w : World) (h0 : PlanArg w v0) (h1 : IntsArg w v1) : Calls Try.prog 4 #[v0, v1] w fun e w' => e = .returned (.bool true) ∧ Below w.heap.size w w' := by
  obtain ⟨r, p, q, cp, cq, lo, lt, rfl, hP⟩ := h0
  obtain ⟨p2, c2, l2, rfl, g1, g2, g3⟩ := h1
  have hkn : (lo.take 62).length = min lo.length 62 := by rw [List.length_take]; omega
  have hk62 : min lo.length 62 ≤ 62 := by omega
  have hC13 : ∀ W, Below w.heap.size w W → Calls Try.prog 13 #[.agg #[.int .i64 r, .slice p lo.length cp, .slice q lt.length cq]] W fun e w' => ∃ p' q' cp' cq', e = .returned (.agg #[.int .i64 r, .slice p' (min lo.length 62) cp', .slice q' (min lt.length 10) cq']) ∧ NumsAt w' p' (lo.take 62) ∧ (∀ g off, p' = some ⟨g, off, none⟩ → W.heap.size < g) ∧ Below W.heap.size W w' := fun W hW => by
    refine (clipped_any W r p q cp cq lo lt (hP.below hW)).mono fun e w' h => ?_
    obtain ⟨p', q', cp', cq', e1, hI, hb⟩ := h
    exact ⟨p', q', cp', cq', e1, hI.1.n1, fun g off e => by have := hI.2.1 g off e; omega, hb⟩
  by_cases hok : St.okPlan r (lo.take 62) (lt.take 10) = true
  · have hlen : (lgPlays (St.mkT r (lo.take 62) (lt.take 10), []) (l2.take 600 ++ tailL 9)).2.length ≤ 100000 := by
      refine Nat.le_trans (lgPlays_len _ _) ?_
      rw [List.length_append, tailL_len, List.length_take]
      show 0 + _ ≤ _
      omega
    have hov := over_all hok (l2.take 600)
    have hfin := once_end hok (l2.take 600)
    have hpl : ∀ (w1 : World) (rb cb : Nat) (own : Own) (ab cap : Nat) (ws : World), Below w.heap.size w w1 → Rn w1 own rb cb ab cap (St.mkT r (lo.take 62) (lt.take 10)) ws → Calls Try.prog 20 #[ptr rb, .slice p2 l2.length c2] ws (playedPost w1 rb cb ab cap (lgPlays (St.mkT r (lo.take 62) (lt.take 10), []) (l2.take 600 ++ tailL 9))) := fun w1 rb cb own ab cap ws hb hO => played_any hO (fun a _ => gotOf_mk _ _ _ _) p2 c2 l2 g1 g2 (g3.below hb)
    generalize lgPlays (St.mkT r (lo.take 62) (lt.take 10), []) (l2.take 600 ++ tailL 9) = S at hlen hov hfin hpl
    refine once_core w r p q p2 lo.length lt.length cp cq l2.length c2 (min lo.length 62) (min lt.length 10) (lo.take 62) (Lib.hid hkn) hk62 S.2 hlen S.1.d.rest (Lib.hid fun o => ?_) (Lib.hid hC13)
    refine (made_any (w.alloc o) r p q cp cq lo lt (hP.below (one _ _))).mono fun e w' h => ?_
    unfold newPost at h
    rw [if_pos hok] at h
    obtain ⟨rb, cb, own, ab, cap, rfl, hO⟩ := h
    refine .inr ⟨rb, rfl, ⟨(okPlan_parts hok).2.2.2.1, hfin⟩, hO.bel, ?_⟩
    refine (hpl (w.alloc o) rb cb own ab cap w' (one w o) ⟨hO, [], inv_mk hok⟩).mono fun e w2 h2 => ?_
    obtain ⟨own2, pp, cc, rfl, hR, hrow, _⟩ := h2
    obtain ⟨vs, hRep⟩ := hR.ow.rep
    have hz : (w.alloc o).heap.size = w.heap.size + 1 := World.size_alloc _ _
    have hrb := hR.ow.ge rb _ hRep.mr
    have hcb := hR.ow.ge cb _ hRep.mc
    refine ⟨hR.ow.bel, pp, cc, by rw [hov], pairs_at hrow, fun g off e => ?_, ?_, fun W' hF => ?_⟩
    · have := (hrow.lt g (by rw [e]; rfl)).1
      omega
    · have e1 : S.1.d.rest = restUpto S.1.d (S.1.d.bottom - S.1.d.top).toNat := rfl
      rw [e1, restUpto_len]
      have := hRep.dq.bot2
      omega
    · exact RestD (hRep.dq.fr hF (by omega) (by omega))
  · refine once_core w r p q p2 lo.length lt.length cp cq l2.length c2 (min lo.length 62) (min lt.length 10) (lo.take 62) (Lib.hid hkn) hk62 [] (by simp) [] (Lib.hid fun o => ?_) (Lib.hid hC13)
    · refine (made_any (w.alloc o) r p q cp cq lo lt (hP.below (one _ _))).mono fun e w' h => ?_
      have h' := h.from_ (one w o)
      unfold newPost at h'
      rw [if_neg hok] at h'
      exact .inl h'
end Go.Proofs.Ytajccigefoddiaa
