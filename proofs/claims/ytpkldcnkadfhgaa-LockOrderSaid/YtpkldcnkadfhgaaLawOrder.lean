/- LockOrder returns true for all inputs. -/
import Derived.Test.YtpkldcnkadfhgaaLawOrdA
import Derived.Test.YtpkldcnkadfhgaaLawOrdB
namespace Go.Proofs.Ytpkldcnkadfhgaa
open Go.RowKit

set_option maxRecDepth 100000 in
theorem law_order_bad (n : Int) (v : Value) (w : World) (h : n < 1 ∨ 16 < n) : Calls Try.prog 6 #[.int .i64 n, v] w (still w (.bool true)) := by
  unfold still
  have A9 := Lib.hid awake_any
  unfold still at A9
  by_cases h1 : n < 1
  · go_enter Try.func6, Try.ntmps6
    go_wp2_with fail
    refine (new_any w).mono ?_
    rintro e w1 ⟨rfl, hT1, hB1⟩
    have HB := Lib.hid hB1
    have MK := Lib.hid (make_any _ _ Lk.new n w1 hT1)
    unfold makePost at MK
    simp only [h1, true_or, if_true] at MK
    clear hT1 hB1
    go_wp2_with fail
    refine MK.out.mono ?_
    rintro e w2 ⟨rfl, hb2⟩
    have HB2 := Lib.hid (HB.out.trans (hb2.mono HB.out.size))
    clear hb2 MK HB
    go_wp2_with fail
    refine (A9.out _).mono ?_
    rintro e w7 ⟨rfl, hb7⟩
    have HB7 := Lib.hid (HB2.out.trans (hb7.mono HB2.out.size))
    clear hb7
    go_wp2
    go_ret
    exact ⟨rfl, HB7.out⟩
  · have h2 : 16 < n := by omega
    go_enter Try.func6, Try.ntmps6
    go_wp2_with fail
    refine (new_any w).mono ?_
    rintro e w1 ⟨rfl, hT1, hB1⟩
    have HB := Lib.hid hB1
    have MK := Lib.hid (make_any _ _ Lk.new n w1 hT1)
    unfold makePost at MK
    simp only [h2, or_true, if_true] at MK
    clear hT1 hB1
    go_wp2_with fail
    refine MK.out.mono ?_
    rintro e w2 ⟨rfl, hb2⟩
    have HB2 := Lib.hid (HB.out.trans (hb2.mono HB.out.size))
    clear hb2 MK HB
    go_wp2_with fail
    refine (A9.out _).mono ?_
    rintro e w7 ⟨rfl, hb7⟩
    have HB7 := Lib.hid (HB2.out.trans (hb7.mono HB2.out.size))
    clear hb7
    go_wp2
    go_ret
    exact ⟨rfl, HB7.out⟩

theorem law_order_c (n : Int) (v : Value) (w : World) (_ : (Lit.int .i64 n).wf = true) (wo : OpsArg w v) : Calls Try.prog 6 #[.int .i64 n, v] w fun e w' => e = .returned (.bool true) ∧ Below w.heap.size w w' := by
  by_cases h : n < 1 ∨ 16 < n
  · exact law_order_bad n v w h
  · obtain ⟨q, cp, L, rfl, hL⟩ := wo
    rcases Nat.lt_or_ge 100 L.length with h100 | h100
    · exact law_order_A n q cp L w (by omega) (by omega) hL h100
    · exact law_order_B n q cp L w (by omega) (by omega) hL h100
end Go.Proofs.Ytpkldcnkadfhgaa
