/- ChannelCopies returns true for all inputs. -/
import Derived.Test.YtlibkhndekgnfaaDoorLawCopA
import Derived.Test.YtlibkhndekgnfaaDoorLawCopB
import Derived.Test.YtlibkhndekgnfaaDoorLawCopC
import Derived.Test.YtlibkhndekgnfaaDoorLawCopD
import Derived.Test.YtlibkhndekgnfaaDoorArg2
namespace Go.Proofs.YtlibkhndekgnfaaDoor
open Go.RowKit

theorem law_copies_c (x0 x1 : Int) (v u : Value) (w : World) (_ : (Lit.int .i64 x0).wf = true) (_ : (Lit.int .i64 x1).wf = true) (wo : OpsArg w v) (wu : OpsArg w u) (henv : Env w) :
    Calls Tryd.prog 6 #[.agg #[.int .i64 x0, .int .i64 x1], v, u] w fun e w' => e = .returned (.bool true) ∧ Below w.heap.size w w' := by
  by_cases h : x0 < 0 ∨ 16 < x0 ∨ x1 < 0 ∨ 2 < x1
  · exact law_copies_bad x0 x1 v u w henv h
  · obtain ⟨q, cp, L, rfl, hL, -⟩ := wo.opsIn
    obtain ⟨q2, cp2, M, rfl, hM, -⟩ := wu.opsIn
    obtain ⟨k, rfl⟩ : ∃ k : Nat, x0 = k := ⟨x0.toNat, by omega⟩
    rcases Nat.lt_or_ge 60 L.length with h60 | h60
    · rcases Nat.lt_or_ge 30 M.length with h30 | h30
      · exact law_copies_A k x1 q cp L q2 cp2 M w henv (by omega) (by omega) (by omega) hL hM h60 h30
      · exact law_copies_B k x1 q cp L q2 cp2 M w henv (by omega) (by omega) (by omega) hL hM h60 h30
    · rcases Nat.lt_or_ge 30 M.length with h30 | h30
      · exact law_copies_C k x1 q cp L q2 cp2 M w henv (by omega) (by omega) (by omega) hL hM h60 h30
      · exact law_copies_D k x1 q cp L q2 cp2 M w henv (by omega) (by omega) (by omega) hL hM h60 h30
end Go.Proofs.YtlibkhndekgnfaaDoor
