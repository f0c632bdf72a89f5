/- ChannelCloses returns true for all inputs. -/
import Derived.Test.YtlibkhndekgnfaaDoorLawCloA
import Derived.Test.YtlibkhndekgnfaaDoorLawCloB
namespace Go.Proofs.YtlibkhndekgnfaaDoor
open Go.RowKit

theorem law_closes_c (x0 x1 : Int) (v : Value) (w : World) (_ : (Lit.int .i64 x0).wf = true) (_ : (Lit.int .i64 x1).wf = true) (wo : OpsArg w v) (henv : Env w) :
    Calls Tryd.prog 5 #[.int .i64 x0, .int .i64 x1, v] w fun e w' => e = .returned (.bool true) ∧ Below w.heap.size w w' := by
  by_cases h : x0 < 0 ∨ 16 < x0 ∨ x1 < 0 ∨ 2 < x1
  · exact law_closes_bad x0 x1 v w henv h
  · obtain ⟨q, cp, L, rfl, hL, -⟩ := wo.opsIn
    obtain ⟨k, rfl⟩ : ∃ k : Nat, x0 = k := ⟨x0.toNat, by omega⟩
    rcases Nat.lt_or_ge 60 L.length with h60 | h60
    · exact law_closes_A k x1 q cp L w henv (by omega) (by omega) (by omega) hL h60
    · exact law_closes_B k x1 q cp L w henv (by omega) (by omega) (by omega) hL h60
end Go.Proofs.YtlibkhndekgnfaaDoor
