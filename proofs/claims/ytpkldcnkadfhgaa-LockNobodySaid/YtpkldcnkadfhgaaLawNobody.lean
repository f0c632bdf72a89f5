/- LockNobody returns true. -/
import Derived.Test.YtpkldcnkadfhgaaNilCalls
namespace Go.Proofs.Ytpkldcnkadfhgaa
open Go.RowKit

set_option maxRecDepth 100000 in
set_option maxHeartbeats 8000000 in
theorem law_nobody (n p : Int) (w : World) : Calls Try.prog 4 #[.int .i64 n, .int .i64 p] w (still w (.bool true)) := by
  unfold still
  have A1 := Lib.hid (make_nil n)
  have A2 := Lib.hid (hold_nil n p)
  have A3 := Lib.hid (free_nil n p)
  have A4 := Lib.hid (state_nil n)
  have A5 := Lib.hid same_nil
  have A6 := Lib.hid (withdraw_nil p)
  have A7 := Lib.hid stuck_nil
  have A8 := Lib.hid copy_nil
  have A9 := Lib.hid awake_any
  unfold still at A1 A2 A3 A4 A5 A6 A7 A8 A9
  go_enter Try.func4, Try.ntmps4
  go_wp2_with fail
  refine (A1.out _).mono ?_
  rintro e w1 ⟨rfl, hb1⟩
  have HB1 := Lib.hid hb1
  clear hb1 A1
  go_wp2_with fail
  refine (A2.out _).mono ?_
  rintro e w2 ⟨rfl, hb2⟩
  have HB2 := Lib.hid (HB1.out.trans (hb2.mono HB1.out.size))
  clear hb2 A2 HB1
  go_wp2_with fail
  refine (A3.out _).mono ?_
  rintro e w3 ⟨rfl, hb3⟩
  have HB3 := Lib.hid (HB2.out.trans (hb3.mono HB2.out.size))
  clear hb3 A3 HB2
  go_wp2_with fail
  refine (A4.out _).mono ?_
  rintro e w4 ⟨rfl, hb4⟩
  have HB4 := Lib.hid ((HB3.out.trans (hb4.mono HB3.out.size)))
  clear hb4 A4 HB3
  go_wp2_with fail
  refine (A5.out _).mono ?_
  rintro e w5 ⟨rfl, hb5⟩
  have HB5 := Lib.hid ((HB4.out.alloc HB4.out.size _).trans (hb5.mono (by have := HB4.out.size; simp; omega)))
  clear hb5 A5 HB4
  go_wp2_with fail
  refine (A6.out _).mono ?_
  rintro e w6 ⟨rfl, hb6⟩
  have HB6 := Lib.hid (HB5.out.trans (hb6.mono HB5.out.size))
  clear hb6 A6 HB5
  go_wp2_with fail
  refine (A7.out _).mono ?_
  rintro e w7 ⟨rfl, hb7⟩
  have HB7 := Lib.hid (HB6.out.trans (hb7.mono HB6.out.size))
  clear hb7 A7 HB6
  go_wp2_with fail
  refine (A8.out _).mono ?_
  rintro e w8 ⟨rfl, hb8⟩
  have HB8 := Lib.hid (HB7.out.trans (hb8.mono HB7.out.size))
  clear hb8 A8 HB7
  go_wp2_with fail
  refine (A9.out _).mono ?_
  rintro e w9 ⟨rfl, hb9⟩
  have HB9 := Lib.hid (HB8.out.trans (hb9.mono HB8.out.size))
  clear hb9 A9 HB8
  go_wp2
  go_ret
  exact ⟨rfl, HB9.out⟩
theorem law_nobody_c (n p : Int) (w : World) (_ : (Lit.int .i64 n).wf = true) (_ : (Lit.int .i64 p).wf = true) : Calls Try.prog 4 #[.int .i64 n, .int .i64 p] w fun e w' => e = .returned (.bool true) ∧ Below w.heap.size w w' := law_nobody n p w
end Go.Proofs.Ytpkldcnkadfhgaa
