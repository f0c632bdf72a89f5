/- What run does: a statement's call. -/
import Derived.Test.YtapbghkoijmjeaaNobody
import Derived.Test.YtapbghkoijmjeaaOps
namespace Go.Proofs.Ytapbghkoijmjeaa
set_option linter.unusedVariables false
set_option linter.unusedSimpArgs false
open Go.RowKit Go.Shelf
def Ld.step (t : Ld.T) (o : Op) : Ld.T :=
  if o.kd = 0 then (Ld.acquire t o.task o.what).1
  else if o.kd = 1 then (Ld.release t o.task o.what).1
  else if o.kd = 2 then (Ld.end_ t o.task).1
  else t
def runPost (w : World) (own : Own) (lb : Nat) (t : Ld.T) (e : Ending) (w' : World) : Prop := e = .returned (.tuple #[]) ∧ Gone w own lb t w'
section
variable {w : World} {own : Own} {lb : Nat} {L : Lay} {t : Ld.T}
theorem end_gone {r : Ld.T × List Int × Int} {e : Ending} {w' : World} (h : endPost w own lb r e w') : (∃ p cap, e = .returned (.tuple #[.slice p r.2.1.length cap, .int .i64 r.2.2])) ∧ Gone w own lb r.1 w' := by
  obtain ⟨p, cap, o, L, h1, _, _, h2, h3, h4, _, _⟩ := h
  exact ⟨⟨p, cap, h1⟩, o, L, h2, h3, h4⟩
set_option maxRecDepth 100000 in
set_option maxHeartbeats 4000000 in
theorem run_any (h : Rep w own lb L t) (hk : Ld.Ok t) (o : Op) : Calls Try.prog 24 #[ptr lb, opV o] w (runPost w own lb (Ld.step t o)) := by
  have A0 : Hid (∀ x, Calls Try.prog 17 #[ptr lb, .int .i64 o.task, .int .i64 o.what] (w.alloc x) (goneI (w.alloc x) own lb (Ld.acquire t o.task o.what))) := Lib.hid fun x => acquire_any (h.below (one _ _)) hk o.task o.what
  have A1 : Hid (∀ x, Calls Try.prog 18 #[ptr lb, .int .i64 o.task, .int .i64 o.what] (w.alloc x) (goneI (w.alloc x) own lb (Ld.release t o.task o.what))) := Lib.hid fun x => rls_any (h.below (one _ _)) hk o.task o.what
  have A2 : Hid (∀ x, Calls Try.prog 15 #[ptr lb, .int .i64 o.task] (w.alloc x) (endPost (w.alloc x) own lb (Ld.end_ t o.task))) := Lib.hid fun x => end_any (h.below (one _ _)) hk o.task
  have A3 : Hid (∀ x, Gone w own lb t (w.alloc x)) := Lib.hid fun x => h.goneB (one _ _)
  unfold goneI at A0 A1
  unfold runPost Ld.step opV
  clear h hk
  by_cases h0 : o.kd = 0
  · rw [if_pos h0, h0]
    generalize Ld.acquire t o.task o.what = r at *
    clear h0 A1 A2 A3
    go_enter Try.func24, Try.ntmps24
    go_wp2_with fail
    refine (A0.out _).mono ?_
    rintro e w2 ⟨rfl, hG⟩
    have HG := Lib.hid (Gone.from_ (one w _) hG)
    clear hG A0
    go_wp2
    go_end0
    exact ⟨rfl, HG.out⟩
  · rw [if_neg h0]
    have j0 : (o.kd == 0) = false := by simpa using h0
    by_cases h1 : o.kd = 1
    · rw [if_pos h1, h1]
      generalize Ld.release t o.task o.what = r at *
      clear h0 j0 h1 A0 A2 A3
      go_enter Try.func24, Try.ntmps24
      go_wp2_with fail
      refine (A1.out _).mono ?_
      rintro e w2 ⟨rfl, hG⟩
      have HG := Lib.hid (Gone.from_ (one w _) hG)
      clear hG A1
      go_wp2
      go_end0
      exact ⟨rfl, HG.out⟩
    · rw [if_neg h1]
      have j1 : (o.kd == 1) = false := by simpa using h1
      by_cases h2 : o.kd = 2
      · rw [if_pos h2, h2]
        generalize Ld.end_ t o.task = r at *
        clear h0 j0 h1 j1 h2 A0 A1 A3
        go_enter Try.func24, Try.ntmps24
        go_wp2_with fail
        refine (A2.out _).mono ?_
        rintro e w2 hG
        obtain ⟨⟨p, cap, rfl⟩, hG2⟩ := end_gone hG
        have HG := Lib.hid (Gone.from_ (one w _) hG2)
        clear hG hG2 A2
        go_wp2
        go_end0
        exact ⟨rfl, HG.out⟩
      · rw [if_neg h2]
        have j2 : (o.kd == 2) = false := by simpa using h2
        clear h0 h1 h2 A0 A1 A2
        go_enter Try.func24, Try.ntmps24
        go_wp2
        go_end0
        exact ⟨rfl, A3.out _⟩
end
end Go.Proofs.Ytapbghkoijmjeaa
