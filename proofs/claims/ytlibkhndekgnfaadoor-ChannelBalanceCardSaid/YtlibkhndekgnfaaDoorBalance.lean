/- ChannelBalance returns true. -/
import Derived.Test.YtlibkhndekgnfaaDoorPure
import Derived.Test.YtlibkhndekgnfaaDoorOpsIn
namespace Go.Proofs.YtlibkhndekgnfaaDoor
open Go.RowKit

/-- What holds between two rounds. -/
def BalRel (w : World) (k : Nat) (p : Int) (i iN oN : Nat) (wr : World) : Prop :=
  ∃ ns c, Own w wr w.heap.size ns c ∧ Below w.heap.size w wr ∧ c.cap = k ∧ c.pol = p ∧ iN = oN + c.dropped + c.buf.length ∧ iN ≤ i

set_option maxRecDepth 100000 in
set_option maxHeartbeats 4000000 in
theorem law_balance_bad (k p : Int) (v : Value) (w : World) (henv : Env w) (h : k < 0 ∨ 16 < k ∨ p < 0 ∨ 2 < p) :
    Calls Tryd.prog 8 #[.int .i64 k, .int .i64 p, v] w fun e w' => e = .returned (.bool true) ∧ Below w.heap.size w w' := by
  have NN := Lib.hid (new_bad k p w h)
  have HE := Lib.hid henv
  clear h henv
  go_enter Tryd.func8, Tryd.ntmps8
  go_wp2_with fail
  refine NN.out.mono ?_
  rintro e w1 ⟨rfl, rfl⟩
  go_wp2_with fail
  refine (awake_any _ HE.out).mono ?_
  rintro e w1 ⟨rfl, hb⟩
  have HB := Lib.hid hb
  clear hb
  go_wp2
  go_ret
  exact ⟨rfl, HB.out⟩

end Go.Proofs.YtlibkhndekgnfaaDoor
