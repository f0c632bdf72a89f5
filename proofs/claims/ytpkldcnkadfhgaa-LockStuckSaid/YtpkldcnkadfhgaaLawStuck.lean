/- LockStuck returns true for all inputs. -/
import Derived.Test.YtpkldcnkadfhgaaLawStkA
import Derived.Test.YtpkldcnkadfhgaaLawStkB
namespace Go.Proofs.Ytpkldcnkadfhgaa
open Go.RowKit

theorem law_stuck_c (v0 v1 : Value) (w : World) (wo0 : OpsArg w v0) (wo1 : OpsArg w v1) : Calls Try.prog 7 #[v0, v1] w fun e w' => e = .returned (.bool true) ∧ Below w.heap.size w w' := by
  obtain ⟨q0, cp0, L0, rfl, hL0⟩ := wo0
  obtain ⟨q, cp, L, rfl, hL⟩ := wo1
  rcases Nat.lt_or_ge 40 L.length with h40 | h40
  · exact law_stuck_A q0 q cp0 cp L0 L w hL0 hL h40
  · exact law_stuck_B q0 q cp0 cp L0 L w hL0 hL h40
end Go.Proofs.Ytpkldcnkadfhgaa
