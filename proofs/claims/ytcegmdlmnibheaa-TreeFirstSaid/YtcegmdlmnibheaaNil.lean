/- What the calls of a nil tree do. -/
import Derived.Test.YtcegmdlmnibheaaFault
namespace Go.Proofs.Ytcegmdlmnibheaa
set_option linter.unusedVariables false
set_option linter.unusedSimpArgs false
open Go.RowKit
set_option maxRecDepth 100000 in
theorem task_nil (n : Int) (w : World) : Calls Try.prog 63 #[.pointer none, .int .i64 n] w (same w (.tuple #[.pointer none, .int .i64 2])) := by
  unfold same
  go_enter Try.func63, Try.ntmps63
  go_wp2
  go_ret2
  exact ⟨rfl, rfl⟩
set_option maxRecDepth 100000 in
theorem scope_nil (n : Int) (w : World) : Calls Try.prog 62 #[.pointer none, .int .i64 n] w (same w (.tuple #[.pointer none, .int .i64 2])) := by
  unfold same
  go_enter Try.func62, Try.ntmps62
  go_wp2
  go_ret2
  exact ⟨rfl, rfl⟩
set_option maxRecDepth 100000 in
theorem running_nil (n : Int) (w : World) : Calls Try.prog 55 #[.pointer none, .int .i64 n] w (same w (.tuple #[.pointer none, .int .i64 2])) := by
  have A := Lib.hid (task_nil n)
  unfold same at A
  unfold same
  go_enter Try.func55, Try.ntmps55
  go_wp2_with fail
  refine (A.out _).mono ?_
  rintro e w2 ⟨rfl, rfl⟩
  go_wp2
  go_ret2
  exact ⟨rfl, rfl⟩
set_option maxRecDepth 100000 in
theorem acting_nil (n : Int) (w : World) : Calls Try.prog 53 #[.pointer none, .int .i64 n] w (same w (.tuple #[.pointer none, .int .i64 2])) := by
  have A := Lib.hid (running_nil n)
  unfold same at A
  unfold same
  go_enter Try.func53, Try.ntmps53
  go_wp2_with fail
  refine (A.out _).mono ?_
  rintro e w2 ⟨rfl, rfl⟩
  go_wp2
  go_ret2
  exact ⟨rfl, rfl⟩
set_option maxRecDepth 100000 in
theorem open_nil (n : Int) (s : Bool) (w : World) : Calls Try.prog 16 #[.pointer none, .int .i64 n, .bool s] w (same w (.tuple #[.int .i64 0, .int .i64 2])) := by
  have A := Lib.hid (acting_nil n)
  unfold same at A
  unfold same
  go_enter Try.func16, Try.ntmps16
  go_wp2_with fail
  refine (A.out _).mono ?_
  rintro e w2 ⟨rfl, rfl⟩
  go_wp2
  go_ret2
  exact ⟨rfl, rfl⟩
set_option maxRecDepth 100000 in
theorem shield_nil (n : Int) (w : World) : Calls Try.prog 26 #[.pointer none, .int .i64 n] w (same w (.int .i64 2)) := by
  have A := Lib.hid (acting_nil n)
  unfold same at A
  unfold same
  go_enter Try.func26, Try.ntmps26
  go_wp2_with fail
  refine (A.out _).mono ?_
  rintro e w2 ⟨rfl, rfl⟩
  go_wp2
  go_ret
  exact ⟨rfl, rfl⟩
set_option maxRecDepth 100000 in
theorem unveil_nil (n : Int) (w : World) : Calls Try.prog 27 #[.pointer none, .int .i64 n] w (same w (.int .i64 2)) := by
  have A := Lib.hid (acting_nil n)
  unfold same at A
  unfold same
  go_enter Try.func27, Try.ntmps27
  go_wp2_with fail
  refine (A.out _).mono ?_
  rintro e w2 ⟨rfl, rfl⟩
  go_wp2
  go_ret
  exact ⟨rfl, rfl⟩
set_option maxRecDepth 100000 in
theorem end_nil (n : Int) (f : Tr.F) (w : World) : Calls Try.prog 18 #[.pointer none, .int .i64 n, .agg #[.int .i64 f.k, .string f.s]] w (still w (.tuple #[.slice none 0 0, .int .i64 2])) := by
  have A := Lib.hid (running_nil n)
  unfold same at A
  unfold still
  go_enter Try.func18, Try.ntmps18
  go_wp2_with fail
  refine (A.out _).mono ?_
  rintro e w2 ⟨rfl, rfl⟩
  go_wp2
  go_ret2
  exact ⟨rfl, one _ _⟩
set_option maxRecDepth 100000 in
theorem leave_nil (n : Int) (f : Tr.F) (w : World) : Calls Try.prog 19 #[.pointer none, .int .i64 n, .agg #[.int .i64 f.k, .string f.s]] w (still w (.tuple #[.slice none 0 0, .int .i64 2])) := by
  have A := Lib.hid (running_nil n)
  unfold same at A
  unfold still
  go_enter Try.func19, Try.ntmps19
  go_wp2_with fail
  refine (A.out _).mono ?_
  rintro e w2 ⟨rfl, rfl⟩
  go_wp2
  go_ret2
  exact ⟨rfl, one _ _⟩
set_option maxRecDepth 100000 in
theorem fail_nil (n : Int) (f : Tr.F) (w : World) : Calls Try.prog 20 #[.pointer none, .int .i64 n, .agg #[.int .i64 f.k, .string f.s]] w (still w (.tuple #[.slice none 0 0, .int .i64 2])) := by
  have A := Lib.hid (scope_nil n)
  unfold same at A
  unfold still
  go_enter Try.func20, Try.ntmps20
  go_wp2_with fail
  refine (A.out _).mono ?_
  rintro e w2 ⟨rfl, rfl⟩
  go_wp2
  go_ret2
  exact ⟨rfl, one _ _⟩
set_option maxRecDepth 100000 in
theorem chain_nil (n : Int) (w : World) : Calls Try.prog 24 #[.pointer none, .int .i64 n] w (same w (.tuple #[.slice none 0 0, .int .i64 2])) := by
  have A := Lib.hid (running_nil n)
  unfold same at A
  unfold same
  go_enter Try.func24, Try.ntmps24
  go_wp2_with fail
  refine (A.out _).mono ?_
  rintro e w2 ⟨rfl, rfl⟩
  go_wp2
  go_ret2
  exact ⟨rfl, rfl⟩
set_option maxRecDepth 100000 in
theorem below_nil (n : Int) (w : World) : Calls Try.prog 25 #[.pointer none, .int .i64 n] w (same w (.tuple #[.slice none 0 0, .int .i64 2])) := by
  have A := Lib.hid (scope_nil n)
  unfold same at A
  unfold same
  go_enter Try.func25, Try.ntmps25
  go_wp2_with fail
  refine (A.out _).mono ?_
  rintro e w2 ⟨rfl, rfl⟩
  go_wp2
  go_ret2
  exact ⟨rfl, rfl⟩
set_option maxRecDepth 100000 in
theorem spawn_nil (n : Int) (w : World) : Calls Try.prog 17 #[.pointer none, .int .i64 n] w (still w (.tuple #[.int .i64 0, .int .i64 2])) := by
  have A := Lib.hid (acting_nil n)
  unfold same at A
  unfold still
  go_enter Try.func17, Try.ntmps17
  go_wp2_with fail
  refine (A.out _).mono ?_
  rintro e w2 ⟨rfl, rfl⟩
  go_wp2
  refine bodyPost_ret (v := .tuple #[.int .i64 0, .int .i64 2]) (by simp [results, Try.results17, go_sem]) rfl ⟨rfl, ((one _ _).alloc (by simp) _).alloc (by simp; omega) _⟩
def zTask : Value := .agg #[.int .i64 0, .bool false, .bool false, .int .i64 0, .string ⟨#[]⟩, .slice none 0 0]
def zScope : Value := .agg #[.int .i64 0, .bool false, .bool false, .slice none 0 0, .int .i64 0, .string ⟨#[]⟩]
set_option maxRecDepth 100000 in
theorem tstate_nil (n : Int) (w : World) : Calls Try.prog 22 #[.pointer none, .int .i64 n] w (still w (.tuple #[zTask, .int .i64 2])) := by
  have A := Lib.hid (task_nil n)
  unfold same at A
  unfold still
  go_enter Try.func22, Try.ntmps22
  go_wp2_with fail
  refine (A.out _).mono ?_
  rintro e w2 ⟨rfl, rfl⟩
  go_wp2
  unfold zTask
  refine bodyPost_ret (v := .tuple #[.agg #[.int .i64 0, .bool false, .bool false, .int .i64 0, .string ⟨#[]⟩, .slice none 0 0], .int .i64 2]) (by simp [results, Try.results22, go_sem]) rfl ⟨rfl, one _ _⟩
set_option maxRecDepth 100000 in
theorem sstate_nil (n : Int) (w : World) : Calls Try.prog 23 #[.pointer none, .int .i64 n] w (still w (.tuple #[zScope, .int .i64 2])) := by
  have A := Lib.hid (scope_nil n)
  unfold same at A
  unfold still
  go_enter Try.func23, Try.ntmps23
  go_wp2_with fail
  refine (A.out _).mono ?_
  rintro e w2 ⟨rfl, rfl⟩
  go_wp2
  unfold zScope
  refine bodyPost_ret (v := .tuple #[.agg #[.int .i64 0, .bool false, .bool false, .slice none 0 0, .int .i64 0, .string ⟨#[]⟩], .int .i64 2]) (by simp [results, Try.results23, go_sem]) rfl ⟨rfl, one _ _⟩
set_option maxRecDepth 100000 in
theorem root_nil (w : World) : Calls Try.prog 21 #[.pointer none] w (same w (.tuple #[.int .i64 0, .int .i64 2])) := by
  unfold same
  go_enter Try.func21, Try.ntmps21
  go_wp2
  go_ret2
  exact ⟨rfl, rfl⟩
set_option maxRecDepth 100000 in
theorem copy_nil (w : World) : Calls Try.prog 30 #[.pointer none] w (same w (.pointer none)) := by
  unfold same
  go_enter Try.func30, Try.ntmps30
  go_wp2
  go_ret
  exact ⟨rfl, rfl⟩
end Go.Proofs.Ytcegmdlmnibheaa
