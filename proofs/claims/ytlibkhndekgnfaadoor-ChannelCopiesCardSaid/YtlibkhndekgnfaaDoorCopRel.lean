/- ChannelCopies: what holds between rounds; where New fails. -/
import Derived.Test.YtlibkhndekgnfaaDoorSteps
namespace Go.Proofs.YtlibkhndekgnfaaDoor
open Go.RowKit

def CopRel1 (w : World) (i : Nat) (wr : World) : Prop := ∃ ns c, Own w wr (w.heap.size + 1) ns c ∧ Below w.heap.size w wr ∧ c.dropped ≤ i
def CopRel2 (_ : Nat) (w4 : World) (d : Nat) (c : Cn.St) (M : List Op) (i : Nat) (wr : World) : Prop := ∃ ms, Own w4 wr d ms (steps c (M.take i)) ∧ Below w4.heap.size w4 wr ∧ (steps c (M.take i)).dropped ≤ 60 + i
def CopRel3 (w : World) (b d : Nat) (ms : List Nat) (c2 c : Cn.St) (M : List Op) (i : Nat) (wr : World) : Prop :=
  ∃ ns, Own w wr b ns (steps c (M.take i)) ∧ Rep wr d ms c2 ∧ (∀ x ∈ d :: ms, x ∉ b :: ns) ∧ Below w.heap.size w wr ∧ (steps c (M.take i)).dropped ≤ 60 + i

set_option maxRecDepth 100000 in
set_option maxHeartbeats 4000000 in
theorem law_copies_bad (k p : Int) (v u : Value) (w : World) (henv : Env w) (h : k < 0 ∨ 16 < k ∨ p < 0 ∨ 2 < p) :
    Calls Tryd.prog 6 #[.agg #[.int .i64 k, .int .i64 p], v, u] w fun e w' => e = .returned (.bool true) ∧ Below w.heap.size w w' := by
  have NN := Lib.hid (new_bad k p (w.alloc (.cells #[.int .i64 k, .int .i64 p] 63)) h)
  have HE := Lib.hid henv
  clear h henv
  go_enter Tryd.func6, Tryd.ntmps6
  go_wp2_with fail
  refine NN.out.mono ?_
  rintro e w1 ⟨rfl, rfl⟩
  go_wp2_with fail
  refine (awake_any _ (HE.out.below (one _ _))).mono ?_
  rintro e w1 ⟨rfl, hb⟩
  have HB := Lib.hid ((one w (.cells #[.int .i64 k, .int .i64 p] 63)).trans (hb.mono (by simp)))
  clear hb
  go_wp2
  go_ret
  exact ⟨rfl, HB.out⟩
end Go.Proofs.YtlibkhndekgnfaaDoor
