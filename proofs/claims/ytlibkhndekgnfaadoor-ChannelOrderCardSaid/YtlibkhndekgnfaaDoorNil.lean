/- What the calls of a nil channel do. -/
import Derived.Test.YtlibkhndekgnfaaDoorNew
namespace Go.Proofs.YtlibkhndekgnfaaDoor
open Go.RowKit

set_option maxRecDepth 100000 in
theorem offer_nil (k n : Int) (s : ByteArray) (w : World) : Calls Tryd.prog 16 #[.pointer none, valV k n s] w fun e w' => e = .returned (.tuple #[.slice none 0 0, faultV false, .bool false]) ∧ Below w.heap.size w w' := by
  go_enter Tryd.func16, Tryd.ntmps16
  go_wp2
  refine bodyPost_ret (v := .tuple #[.slice none 0 0, faultV false, .bool false]) (by simp [results, Tryd.results16, go_sem]) rfl ?_
  exact ⟨rfl, (one _ _).trans ((one _ _).mono (by simp))⟩
set_option maxRecDepth 100000 in
theorem take_nil (w : World) : Calls Tryd.prog 17 #[.pointer none] w fun e w' => e = .returned (.tuple #[valV 0 0 noS, .slice none 0 0, faultV false, .bool false]) ∧ Below w.heap.size w w' := by
  go_enter Tryd.func17, Tryd.ntmps17
  go_wp2
  refine bodyPost_ret (v := .tuple #[valV 0 0 noS, .slice none 0 0, faultV false, .bool false]) (by simp [results, Tryd.results17, go_sem]) rfl ?_
  exact ⟨rfl, (one _ _).trans ((one _ _).mono (by simp))⟩
set_option maxRecDepth 100000 in
theorem park_nil (t : Int) (b : Bool) (k n : Int) (s : ByteArray) (w : World) : Calls Tryd.prog 18 #[.pointer none, .int .i64 t, .bool b, valV k n s] w fun e w' => e = .returned (.int .i64 2) ∧ Below w.heap.size w w' := by
  go_enter Tryd.func18, Tryd.ntmps18
  go_wp2
  refine bodyPost_ret (v := .int .i64 2) (by simp [results, Tryd.results18, go_sem]) rfl ?_
  exact ⟨rfl, ((one _ _).trans ((one _ _).mono (by simp))).trans ((one _ _).mono (by simp; omega))⟩
set_option maxRecDepth 100000 in
theorem withdraw_nil (t : Int) (w : World) : Calls Tryd.prog 19 #[.pointer none, .int .i64 t] w fun e w' => e = .returned (.bool false) ∧ Below w.heap.size w w' := by
  go_enter Tryd.func19, Tryd.ntmps19
  go_wp2
  go_ret
  exact ⟨rfl, one _ _⟩
set_option maxRecDepth 100000 in
theorem close_nil (w : World) : Calls Tryd.prog 20 #[.pointer none] w fun e w' => e = .returned (.slice none 0 0) ∧ Below w.heap.size w w' := by
  go_enter Tryd.func20, Tryd.ntmps20
  go_wp2
  go_ret
  exact ⟨rfl, Below.refl _ _⟩
set_option maxRecDepth 100000 in
theorem copy_nil (w : World) : Calls Tryd.prog 21 #[.pointer none] w fun e w' => e = .returned (.pointer none) ∧ Below w.heap.size w w' := by
  go_enter Tryd.func21, Tryd.ntmps21
  go_wp2
  go_ret
  exact ⟨rfl, Below.refl _ _⟩
/-- A state, as a value. -/
abbrev stateV (cap pol : Int) (closed : Bool) (buf wait : Value) (dropped : Int) : Value := .agg #[.int .i64 cap, .int .i64 pol, .bool closed, buf, wait, .int .i64 dropped]
set_option maxRecDepth 100000 in
theorem state_nil (w : World) : Calls Tryd.prog 14 #[.pointer none] w fun e w' => e = .returned (stateV 0 0 false (.slice none 0 0) (.slice none 0 0) 0) ∧ Below w.heap.size w w' := by
  go_enter Tryd.func14, Tryd.ntmps14
  go_wp2
  refine bodyPost_ret (v := stateV 0 0 false (.slice none 0 0) (.slice none 0 0) 0) (by simp [results, Tryd.results14, go_sem]) rfl ?_
  exact ⟨rfl, one _ _⟩
theorem number_any (n : Int) (w : World) : Calls Tryd.prog 24 #[.int .i64 n] w fun e w' => e = .returned (valV 1 n noS) ∧ Below w.heap.size w w' := by
  go_enter Tryd.func24, Tryd.ntmps24
  go_wp2
  exact bodyPost_ret (v := valV 1 n noS) (by simp [results, Tryd.results24, go_sem]) rfl ⟨rfl, one _ _⟩
end Go.Proofs.YtlibkhndekgnfaaDoor
