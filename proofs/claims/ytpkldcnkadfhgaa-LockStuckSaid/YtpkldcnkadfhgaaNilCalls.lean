/- What the calls of a nil table do. -/
import Derived.Test.YtpkldcnkadfhgaaFrame
namespace Go.Proofs.Ytpkldcnkadfhgaa
open Go.RowKit

set_option maxRecDepth 100000 in
theorem make_nil (n : Int) (w : World) : Calls Try.prog 14 #[.pointer none, .int .i64 n] w (still w (.tuple #[.int .i64 0, .int .i64 2])) := by
  unfold still
  go_enter Try.func14, Try.ntmps14
  go_wp2
  go_ret2
  exact ⟨rfl, Below.refl _ _⟩
set_option maxRecDepth 100000 in
theorem hold_nil (n p : Int) (w : World) : Calls Try.prog 15 #[.pointer none, .int .i64 n, .int .i64 p] w (still w (.tuple #[.bool false, .int .i64 2])) := by
  have HC := Lib.hid (check_nil n p)
  unfold still at HC ⊢
  go_enter Try.func15, Try.ntmps15
  go_wp2_with fail
  refine (HC.out _).mono ?_
  rintro e w1 ⟨rfl, hb⟩
  have HB := Lib.hid hb
  clear hb
  go_wp2
  go_ret2
  exact ⟨rfl, HB.out⟩
set_option maxRecDepth 100000 in
theorem free_nil (n p : Int) (w : World) : Calls Try.prog 16 #[.pointer none, .int .i64 n, .int .i64 p] w (still w (.tuple #[.int .i64 0, .int .i64 2])) := by
  have HC := Lib.hid (check_nil n p)
  unfold still at HC ⊢
  go_enter Try.func16, Try.ntmps16
  go_wp2_with fail
  refine (HC.out _).mono ?_
  rintro e w1 ⟨rfl, hb⟩
  have HB := Lib.hid hb
  clear hb
  go_wp2
  go_ret2
  exact ⟨rfl, HB.out⟩
/-- A state, as a value. -/
abbrev stateV (a b : Int) (h q : Value) : Value := .agg #[.int .i64 a, .int .i64 b, h, q]
abbrev noSl : Value := .slice none 0 0
set_option maxRecDepth 100000 in
theorem state_nil (n : Int) (w : World) : Calls Try.prog 17 #[.pointer none, .int .i64 n] w (still w (.tuple #[stateV 0 0 noSl noSl, .int .i64 2])) := by
  unfold still
  go_enter Try.func17, Try.ntmps17
  go_wp2
  refine bodyPost_ret (v := .tuple #[stateV 0 0 noSl noSl, .int .i64 2]) (by simp [results, Try.results17, go_sem]) rfl ?_
  exact ⟨rfl, one _ _⟩
set_option maxRecDepth 100000 in
theorem withdraw_nil (p : Int) (w : World) : Calls Try.prog 19 #[.pointer none, .int .i64 p] w (still w (.bool false)) := by
  unfold still
  go_enter Try.func19, Try.ntmps19
  go_wp2
  go_ret
  exact ⟨rfl, Below.refl _ _⟩
set_option maxRecDepth 100000 in
theorem stuck_nil (w : World) : Calls Try.prog 20 #[.pointer none] w (still w noSl) := by
  unfold still
  go_enter Try.func20, Try.ntmps20
  go_wp2
  go_ret
  exact ⟨rfl, Below.refl _ _⟩
set_option maxRecDepth 100000 in
theorem copy_nil (w : World) : Calls Try.prog 21 #[.pointer none] w (still w (.pointer none)) := by
  unfold still
  go_enter Try.func21, Try.ntmps21
  go_wp2
  go_ret
  exact ⟨rfl, Below.refl _ _⟩
set_option maxRecDepth 100000 in
set_option maxHeartbeats 4000000 in
theorem same_nil (w : World) : Calls Try.prog 18 #[stateV 0 0 noSl noSl, stateV 0 0 noSl noSl] w (still w (.bool true)) := by
  unfold still
  go_enter Try.func18, Try.ntmps18
  go_wp2_with fail
  go_loopw [42] (fun vi wt => vi = .int .i64 0 ∧ Below w.heap.size w wt ∧ wt.cell? ⟨w.heap.size, 3, none⟩ = some noSl ∧ wt.cell? ⟨w.heap.size + 1, 3, none⟩ = some noSl ∧ w.heap.size + 2 ≤ wt.heap.size) (fun _ _ => 0)
  case atStart =>
    have b1 := (Blk.new w #[.int .i64 0, .int .i64 0, noSl, noSl] 44).alloc (.cells #[.int .i64 0, .int .i64 0, noSl, noSl] 44)
    have b2 := Blk.new (w.alloc (.cells #[.int .i64 0, .int .i64 0, noSl, noSl] 44)) #[.int .i64 0, .int .i64 0, noSl, noSl] 44
    rw [World.size_alloc] at b2
    exact ⟨rfl, (one _ _).trans ((one _ _).mono (by simp)), b1.cell 3 (by simp), b2.cell 3 (by simp), by simp⟩
  case round =>
    obtain ⟨rfl, hB, c1, c2, hz⟩ := hrel
    have HB := Lib.hid hB
    have hl1 : w.heap.size < wr.heap.size := by omega
    have hl2 : w.heap.size + 1 < wr.heap.size := by omega
    clear hB
    go_wp2_with fail
    go_loopw [58] (fun vi wt => vi = .int .i64 0 ∧ Below w.heap.size w wt) (fun _ _ => 0)
    case atStart => exact ⟨rfl, HB.out⟩
    case round =>
      obtain ⟨rfl, hB2⟩ := hrel
      have HB2 := Lib.hid hB2
      clear hB2
      go_wp2
      go_ret
      exact ⟨rfl, HB2.out⟩
end Go.Proofs.Ytpkldcnkadfhgaa
