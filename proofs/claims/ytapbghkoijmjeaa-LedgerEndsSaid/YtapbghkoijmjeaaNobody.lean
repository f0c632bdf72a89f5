/- LedgerNobody returns true. -/
import Derived.Test.YtapbghkoijmjeaaAwake
namespace Go.Proofs.Ytapbghkoijmjeaa
set_option linter.unusedVariables false
set_option linter.unusedSimpArgs false
open Go.RowKit Go.Shelf
set_option maxRecDepth 100000 in
theorem acquire_nil (task what : Int) (w : World) : Calls Try.prog 17 #[.pointer none, .int .i64 task, .int .i64 what] w (same w (.int .i64 2)) := by
  have KN := Lib.hid (knows_nil task w)
  unfold same at KN ⊢
  go_enter Try.func17, Try.ntmps17
  go_wp2_with fail
  refine KN.out.mono ?_
  rintro e w2 ⟨rfl, rfl⟩
  go_wp2
  go_ret
  exact ⟨rfl, rfl⟩
set_option maxRecDepth 100000 in
theorem rls_nil (task what : Int) (w : World) : Calls Try.prog 18 #[.pointer none, .int .i64 task, .int .i64 what] w (still w (.int .i64 2)) := by
  have KN : Hid (∀ W, Calls Try.prog 38 #[.pointer none, .int .i64 task] W (same W (.bool false))) := Lib.hid fun W => knows_nil task W
  unfold same at KN
  unfold still
  go_enter Try.func18, Try.ntmps18
  go_wp2_with fail
  refine (KN.out _).mono ?_
  rintro e w2 ⟨rfl, rfl⟩
  go_wp2
  go_ret
  exact ⟨rfl, (one _ _).alloc (by simp) _⟩
set_option maxRecDepth 100000 in
theorem which_nil (f : Nat) (w : World) : Calls Try.prog 46 #[.pointer none, .func (.func f) #[] #[]] w (same w (.slice none 0 0)) := by
  unfold same
  go_enter Try.func46, Try.ntmps46
  go_wp2
  go_ret
  exact ⟨rfl, rfl⟩
set_option maxRecDepth 100000 in
theorem crossed_nil (w : World) : Calls Try.prog 20 #[.pointer none] w (same w (.slice none 0 0)) := by
  have A := Lib.hid (which_nil 47 w)
  unfold same at A ⊢
  go_enter Try.func20, Try.ntmps20
  go_wp2_with fail
  refine A.out.mono ?_
  rintro e w2 ⟨rfl, rfl⟩
  go_wp2
  go_ret
  exact ⟨rfl, rfl⟩
set_option maxRecDepth 100000 in
theorem leaks_nil (w : World) : Calls Try.prog 21 #[.pointer none] w (same w (.slice none 0 0)) := by
  have A := Lib.hid (which_nil 48 w)
  unfold same at A ⊢
  go_enter Try.func21, Try.ntmps21
  go_wp2_with fail
  refine A.out.mono ?_
  rintro e w2 ⟨rfl, rfl⟩
  go_wp2
  go_ret
  exact ⟨rfl, rfl⟩
set_option maxRecDepth 100000 in
theorem sound_nil (w : World) : Calls Try.prog 22 #[.pointer none] w (same w (.bool false)) := by
  unfold same
  go_enter Try.func22, Try.ntmps22
  go_wp2
  go_ret
  exact ⟨rfl, rfl⟩
set_option maxRecDepth 100000 in
theorem copy_nil (w : World) : Calls Try.prog 23 #[.pointer none] w (same w (.pointer none)) := by
  unfold same
  go_enter Try.func23, Try.ntmps23
  go_wp2
  go_ret
  exact ⟨rfl, rfl⟩
set_option maxRecDepth 100000 in
set_option maxHeartbeats 8000000 in
theorem law_nobody (task what : Int) (w : World) : Calls Try.prog 4 #[.int .i64 task, .int .i64 what] w (still w (.bool true)) := by
  have N1 := Lib.hid (end_nil w task)
  have N2 := Lib.hid (held_nil w task)
  have N3 := Lib.hid (acquire_nil task what w)
  have N4 := Lib.hid (rls_nil task what w)
  have N5 := Lib.hid log_nil
  have N6 := Lib.hid crossed_nil
  have N7 := Lib.hid leaks_nil
  have N8 := Lib.hid sound_nil
  have N9 := Lib.hid copy_nil
  have N10 := Lib.hid awake_any
  unfold same at N1 N2 N3 N5 N6 N7 N8 N9
  unfold still at N4 N10 ⊢
  go_enter Try.func4, Try.ntmps4
  go_wp2_with fail
  refine N1.out.mono ?_
  rintro e w1 ⟨rfl, rfl⟩
  go_wp2_with fail
  refine N2.out.mono ?_
  rintro e w1 ⟨rfl, rfl⟩
  go_wp2_with fail
  refine N3.out.mono ?_
  rintro e w1 ⟨rfl, rfl⟩
  go_wp2_with fail
  refine N4.out.mono ?_
  rintro e w4 ⟨rfl, hb4⟩
  have HB4 := Lib.hid hb4
  clear hb4
  go_wp2_with fail
  refine (N5.out _).mono ?_
  rintro e w1 ⟨rfl, rfl⟩
  go_wp2_with fail
  refine (N6.out _).mono ?_
  rintro e w1 ⟨rfl, rfl⟩
  go_wp2_with fail
  refine (N7.out _).mono ?_
  rintro e w1 ⟨rfl, rfl⟩
  go_wp2_with fail
  refine (N8.out _).mono ?_
  rintro e w1 ⟨rfl, rfl⟩
  go_wp2_with fail
  refine (N9.out _).mono ?_
  rintro e w1 ⟨rfl, rfl⟩
  go_wp2_with fail
  refine (N10.out _).mono ?_
  rintro e w10 ⟨rfl, hb⟩
  have HB := Lib.hid (HB4.out.trans (hb.mono HB4.out.size))
  clear hb
  go_wp2
  go_ret
  exact ⟨rfl, HB.out⟩
end Go.Proofs.Ytapbghkoijmjeaa
