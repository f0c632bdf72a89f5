/- StealNobody. -/
import Derived.Test.YtajccigefoddiaaKeep
namespace Go.Proofs.Ytajccigefoddiaa
set_option linter.unusedVariables false
set_option linter.unusedSimpArgs false
open Go.RowKit Go.Shelf
set_option maxRecDepth 100000 in
theorem Step_nil (x : Int) (w : World) : Calls Try.prog 18 #[.pointer none, .int .i64 x] w (still w (.bool false)) := by
  have HS : Hid (∀ W, Calls Try.prog 46 #[.pointer none, .int .i64 x] W (same W (.bool false))) := Lib.hid fun W => has_nil (w := W) x
  unfold same at HS
  unfold still
  go_enter Try.func18, Try.ntmps18
  go_wp2_with fail
  go_quiet ((go_at_call 46; exact quiet_left (HS.out _)))
  go_wp2
  go_ret
  exact ⟨rfl, below_drewN (Below.refl _ _) _⟩
set_option maxRecDepth 100000 in
theorem Copy_nil (w : World) : Calls Try.prog 19 #[.pointer none] w (same w (.pointer none)) := by
  unfold same
  go_enter Try.func19, Try.ntmps19
  go_wp2
  go_ret
  exact ⟨rfl, rfl⟩
set_option maxRecDepth 100000 in
theorem hasP_nil (x : Int) (w : World) : Calls Try.prog 53 #[.pointer none, .int .i64 x] w (same w (.bool false)) := by
  unfold same
  go_enter Try.func53, Try.ntmps53
  go_wp2
  go_ret
  exact ⟨rfl, rfl⟩
set_option maxRecDepth 100000 in
theorem Next_nil (a b : Int) (w : World) : Calls Try.prog 26 #[.pointer none, .int .i64 a, .int .i64 b] w (same w (.tuple #[.int .i64 0, .int .i64 0, .bool false])) := by
  have H := Lib.hid (hasP_nil a w)
  unfold same at H ⊢
  go_enter Try.func26, Try.ntmps26
  go_wp2_with fail
  refine H.out.mono ?_
  rintro e w1 ⟨rfl, rfl⟩
  go_wp2
  go_ret3
  exact ⟨rfl, rfl⟩
set_option maxRecDepth 100000 in
theorem Put_nil (a b : Int) (w : World) : Calls Try.prog 28 #[.pointer none, .int .i64 a, .int .i64 b] w (same w (.int .i64 2)) := by
  have H := Lib.hid (hasP_nil a w)
  unfold same at H ⊢
  go_enter Try.func28, Try.ntmps28
  go_wp2_with fail
  refine H.out.mono ?_
  rintro e w1 ⟨rfl, rfl⟩
  go_wp2
  go_ret
  exact ⟨rfl, rfl⟩
set_option maxRecDepth 100000 in
theorem Queue_nil (a : Int) (w : World) : Calls Try.prog 29 #[.pointer none, .int .i64 a] w (same w (.slice none 0 0)) := by
  have H := Lib.hid (hasP_nil a w)
  unfold same at H ⊢
  go_enter Try.func29, Try.ntmps29
  go_wp2_with fail
  refine H.out.mono ?_
  rintro e w1 ⟨rfl, rfl⟩
  go_wp2
  go_ret
  exact ⟨rfl, rfl⟩
set_option maxRecDepth 100000 in
theorem CopyP_nil (w : World) : Calls Try.prog 30 #[.pointer none] w (same w (.pointer none)) := by
  unfold same
  go_enter Try.func30, Try.ntmps30
  go_wp2
  go_ret
  exact ⟨rfl, rfl⟩
set_option maxRecDepth 100000 in
set_option maxHeartbeats 4000000 in
theorem law_nobody (a b : Int) (w : World) : Calls Try.prog 9 #[.int .i64 a, .int .i64 b] w (still w (.bool true)) := by
  have N1 := Lib.hid (Next_nil a b w)
  have N2 := Lib.hid (Step_nil a w)
  have N3 := Lib.hid Over_nil
  have N4 := Lib.hid (Got_nil a)
  have N5 := Lib.hid Rest_nil
  have N6 := Lib.hid Copy_nil
  have N7 := Lib.hid (Put_nil a b)
  have N8 := Lib.hid (Queue_nil a)
  have N9 := Lib.hid CopyP_nil
  have N10 := Lib.hid awake_any
  unfold same at N1 N3 N4 N5 N6 N7 N8 N9
  unfold still at N2 N10 ⊢
  go_enter Try.func9, Try.ntmps9
  go_wp2_with fail
  refine N1.out.mono ?_
  rintro e w1 ⟨rfl, rfl⟩
  go_wp2_with fail
  refine N2.out.mono ?_
  rintro e w2 ⟨rfl, hb⟩
  have HB := Lib.hid hb
  clear hb
  go_wp2_with fail
  refine (N3.out _).mono ?_
  rintro e w1 ⟨rfl, rfl⟩
  go_wp2_with fail
  refine (N4.out _).mono ?_
  rintro e w1 ⟨rfl, rfl⟩
  go_wp2_with fail
  refine (N5.out _).mono ?_
  rintro e w1 ⟨rfl, rfl⟩
  go_wp2_with fail
  refine (N6.out _).mono ?_
  rintro e w1 ⟨rfl, rfl⟩
  go_wp2_with fail
  refine (N7.out _).mono ?_
  rintro e w1 ⟨rfl, rfl⟩
  go_wp2_with fail
  refine (N8.out _).mono ?_
  rintro e w1 ⟨rfl, rfl⟩
  go_wp2_with fail
  refine (N9.out _).mono ?_
  rintro e w1 ⟨rfl, rfl⟩
  go_wp2_with fail
  refine (N10.out _).mono ?_
  rintro e w10 ⟨rfl, hb⟩
  have HB2 := Lib.hid (HB.out.trans (hb.mono HB.out.size))
  clear hb
  go_wp2
  go_ret
  exact ⟨rfl, HB2.out⟩
end Go.Proofs.Ytajccigefoddiaa
