/- PackSums, for every input. -/
import Derived.Test.YtieipohbdogljaaLawSums
import Derived.Test.YtieipohbdogljaaFrame
namespace Go.Proofs.Ytieipohbdogljaa
set_option linter.unusedVariables false
set_option linter.unusedSimpArgs false
open Go.RowKit
theorem law_sums_c (a b c : ByteArray) (w : World) (ha : a.size ≤ maxLen) (hb : b.size ≤ maxLen) (hc : c.size ≤ maxLen) : Calls Try.prog 5 #[.string a, .string b, .string c] w fun e w' => e = .returned (.bool true) ∧ Below w.heap.size w w' := law_sums a b c w ha hb hc
end Go.Proofs.Ytieipohbdogljaa
