/- LockBalance returns true for all inputs. -/
import Derived.Test.YtpkldcnkadfhgaaLawBalA
import Derived.Test.YtpkldcnkadfhgaaLawBalB
namespace Go.Proofs.Ytpkldcnkadfhgaa
open Go.RowKit

theorem law_balance_c (v : Value) (w : World) (wo : OpsArg w v) : Calls Try.prog 5 #[v] w fun e w' => e = .returned (.bool true) ∧ Below w.heap.size w w' := by
  obtain ⟨q, cp, L, rfl, hL⟩ := wo
  rcases Nat.lt_or_ge 80 L.length with h80 | h80
  · exact law_balance_A q cp L w hL h80
  · exact law_balance_B q cp L w hL h80
end Go.Proofs.Ytpkldcnkadfhgaa
