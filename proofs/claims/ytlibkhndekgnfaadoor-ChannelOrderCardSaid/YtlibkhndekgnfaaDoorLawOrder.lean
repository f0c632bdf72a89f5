/- ChannelOrder returns true for all inputs. -/
import Derived.Test.YtlibkhndekgnfaaDoorLawOrdA
import Derived.Test.YtlibkhndekgnfaaDoorLawOrdB
import Derived.Test.YtlibkhndekgnfaaDoorOrdArg
namespace Go.Proofs.YtlibkhndekgnfaaDoor
open Go.RowKit

set_option maxRecDepth 100000 in
set_option maxHeartbeats 4000000 in
theorem law_order_bad (k p : Int) (v : Value) (w : World) (henv : Env w) (h : k < 0 ∨ 16 < k ∨ p < 0 ∨ 2 < p) :
    Calls Tryd.prog 7 #[.int .i64 k, .int .i64 p, v] w fun e w' => e = .returned (.bool true) ∧ Below w.heap.size w w' := by
  have NN := Lib.hid (new_bad k p w h)
  have HE := Lib.hid henv
  clear h henv
  go_enter Tryd.func7, Tryd.ntmps7
  go_wp2_with fail
  refine NN.out.mono ?_
  rintro e w1 ⟨rfl, rfl⟩
  go_wp2_with fail
  refine (awake_any _ HE.out).mono ?_
  rintro e w1 ⟨rfl, hb⟩
  have HB := Lib.hid hb
  clear hb
  go_wp2
  go_ret
  exact ⟨rfl, HB.out⟩

theorem law_order_c (x0 x1 : Int) (v : Value) (w : World) (_ : (Lit.int .i64 x0).wf = true) (_ : (Lit.int .i64 x1).wf = true) (wo : BoolsArg w v) (henv : Env w) :
    Calls Tryd.prog 7 #[.int .i64 x0, .int .i64 x1, v] w fun e w' => e = .returned (.bool true) ∧ Below w.heap.size w w' := by
  by_cases h : x0 < 0 ∨ 16 < x0 ∨ x1 < 0 ∨ 2 < x1
  · exact law_order_bad x0 x1 v w henv h
  · obtain ⟨q, n, cp, B, rfl, h1, h2, hL⟩ := wo
    have hm : maxLen ≤ 9223372036854775807 := by decide
    obtain ⟨k, rfl⟩ : ∃ k : Nat, x0 = k := ⟨x0.toNat, by omega⟩
    rcases Nat.lt_or_ge 100 n with h100 | h100
    · exact law_order_A k x1 q n cp B w henv (by omega) (by omega) (by omega) hL h1 (by omega) h100
    · exact law_order_B k x1 q n cp B w henv (by omega) (by omega) (by omega) hL h1 (by omega) h100
end Go.Proofs.YtlibkhndekgnfaaDoor
