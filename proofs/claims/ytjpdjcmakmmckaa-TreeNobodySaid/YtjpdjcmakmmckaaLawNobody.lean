/- TreeNobody, with the frame of the statements. -/
import Derived.Test.YtjpdjcmakmmckaaNobody
import Derived.Test.YtjpdjcmakmmckaaFrame
namespace Go.Proofs.Ytjpdjcmakmmckaa
open Go.RowKit
theorem law_nobody_c (o : Op) (w : World) (_ : o.f.s.size ≤ maxLen) : Calls Try.prog 4 #[opV o] w fun e w' => e = .returned (.bool true) ∧ Below w.heap.size w w' := law_nobody o w
end Go.Proofs.Ytjpdjcmakmmckaa
