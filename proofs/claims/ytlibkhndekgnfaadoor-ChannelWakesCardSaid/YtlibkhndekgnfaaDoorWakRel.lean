/- ChannelWakes: what holds between rounds; where New fails. -/
import Derived.Test.YtlibkhndekgnfaaDoorWakePure
namespace Go.Proofs.YtlibkhndekgnfaaDoor
open Go.RowKit

theorem field_wait (a b c d e f : Value) (w : World) : Sem.run Tryd.prog (Instr.field 30 (.agg #[a, b, c, d, e, f]) 4) w = .ok e w := by kernel_rfl

def WakOut (w : World) (i : Nat) (wr : World) : Prop := ∃ ns c, Own w wr w.heap.size ns c ∧ Below w.heap.size w wr ∧ Cn.Q c ∧ c.dropped ≤ i
def WakRel (w : World) (ns : List Nat) (c : Cn.St) (v : Value) (wr : World) : Prop := Own w wr w.heap.size ns c ∧ WsAt wr 0 v c.wait ∧ Below w.heap.size w wr

set_option maxRecDepth 100000 in
set_option maxHeartbeats 4000000 in
theorem law_wakes_bad (k p : Int) (v : Value) (w : World) (henv : Env w) (h : k < 0 ∨ 16 < k ∨ p < 0 ∨ 2 < p) :
    Calls Tryd.prog 9 #[.int .i64 k, .int .i64 p, v] w fun e w' => e = .returned (.bool true) ∧ Below w.heap.size w w' := by
  have NN := Lib.hid (new_bad k p w h)
  have HE := Lib.hid henv
  clear h henv
  go_enter Tryd.func9, Tryd.ntmps9
  go_wp2_with fail
  refine NN.out.mono ?_
  rintro e w1 ⟨rfl, rfl⟩
  go_wp2_with fail
  refine (awake_any _ HE.out).mono ?_
  rintro e w1 ⟨rfl, hb⟩
  have HB := Lib.hid hb
  clear hb
  go_wp2
  go_ret
  exact ⟨rfl, HB.out⟩
end Go.Proofs.YtlibkhndekgnfaaDoor
