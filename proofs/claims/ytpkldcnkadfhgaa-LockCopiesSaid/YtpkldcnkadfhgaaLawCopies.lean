/- LockCopies returns true for all inputs. -/
import Derived.Test.YtpkldcnkadfhgaaLawCopA
import Derived.Test.YtpkldcnkadfhgaaLawCopB
namespace Go.Proofs.Ytpkldcnkadfhgaa
open Go.RowKit

theorem law_copies_c (v0 v1 : Value) (w : World) (wo0 : OpsArg w v0) (wo1 : OpsArg w v1) : Calls Try.prog 9 #[v0, v1] w fun e w' => e = .returned (.bool true) ∧ Below w.heap.size w w' := by
  obtain ⟨q0, cp0, L0, rfl, hL0⟩ := wo0
  obtain ⟨q, cp, L, rfl, hL⟩ := wo1
  rcases Nat.lt_or_ge 30 L.length with h30 | h30
  · exact law_copies_A q0 q cp0 cp L0 L w hL0 hL h30
  · exact law_copies_B q0 q cp0 cp L0 L w hL0 hL h30
end Go.Proofs.Ytpkldcnkadfhgaa
