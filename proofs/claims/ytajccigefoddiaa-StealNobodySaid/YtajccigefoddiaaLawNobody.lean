/- StealNobody, with the frame of the statements. -/
import Derived.Test.YtajccigefoddiaaNob
import Derived.Test.YtajccigefoddiaaFrame
namespace Go.Proofs.Ytajccigefoddiaa
set_option linter.unusedVariables false
set_option linter.unusedSimpArgs false
open Go.RowKit
theorem law_nobody_c (x y : Int) (w : World) (_ : (Lit.int .i64 x).wf = true) (_ : (Lit.int .i64 y).wf = true) : Calls Try.prog 9 #[.int .i64 x, .int .i64 y] w fun e w' => e = .returned (.bool true) ∧ Below w.heap.size w w' := law_nobody x y w
end Go.Proofs.Ytajccigefoddiaa
