/- The small functions. -/
import Derived.Test.YtapbghkoijmjeaaRep
namespace Go.Proofs.Ytapbghkoijmjeaa
set_option linter.unusedVariables false
set_option linter.unusedSimpArgs false
open Go.RowKit
def still (w : World) (v : Value) (e : Ending) (w' : World) : Prop := e = .returned v ∧ Below w.heap.size w w'
def same (w : World) (v : Value) (e : Ending) (w' : World) : Prop := e = .returned v ∧ w = w'
theorem ret_int {k : IntKind} {a b : Int} (h : a = b) : Ending.returned (.int k a) = .returned (.int k b) := by rw [h]

set_option maxRecDepth 100000 in
theorem knows_no (task : Int) (q : Addr) (w : World) (h : Ld.knows task = false) : Calls Try.prog 38 #[.pointer (some q), .int .i64 task] w (same w (.bool false)) := by
  unfold same
  by_cases h1 : 1 ≤ task
  · have h2 : ¬ task ≤ 64 := by unfold Ld.knows at h; simp [h1] at h; omega
    clear h
    go_enter Try.func38, Try.ntmps38
    go_wp2
    go_ret
    exact ⟨by simp [h2], rfl⟩
  · clear h
    go_enter Try.func38, Try.ntmps38
    go_wp2
    go_ret
    exact ⟨by simp [h1], rfl⟩
set_option maxRecDepth 100000 in
theorem knows_yes (task : Int) (q : Addr) (w : World) (h1 : 1 ≤ task) (h2 : task ≤ 64) : Calls Try.prog 38 #[.pointer (some q), .int .i64 task] w (same w (.bool true)) := by
  unfold same
  go_enter Try.func38, Try.ntmps38
  go_wp2
  go_ret
  exact ⟨rfl, rfl⟩
set_option maxRecDepth 100000 in
theorem knows_nil (task : Int) (w : World) : Calls Try.prog 38 #[.pointer none, .int .i64 task] w (same w (.bool false)) := by
  unfold same
  go_enter Try.func38, Try.ntmps38
  go_wp2
  go_ret
  exact ⟨rfl, rfl⟩
set_option maxRecDepth 100000 in
theorem isWhat_any (x : Int) (w : World) : Calls Try.prog 41 #[.int .i64 x] w (same w (.bool (Ld.isWhat x))) := by
  unfold same
  by_cases h1 : 0 ≤ x
  · by_cases h2 : x ≤ 999
    · have e : Ld.isWhat x = true := by simp [Ld.isWhat, h1, h2]
      rw [e]; clear e
      go_enter Try.func41, Try.ntmps41
      go_wp2
      go_ret
      exact ⟨rfl, rfl⟩
    · have e : Ld.isWhat x = false := by simp [Ld.isWhat, h2]
      rw [e]; clear e
      go_enter Try.func41, Try.ntmps41
      go_wp2
      go_ret
      exact ⟨by simp [h2]; try omega, rfl⟩
  · have e : Ld.isWhat x = false := by simp [Ld.isWhat, h1]
    rw [e]; clear e
    go_enter Try.func41, Try.ntmps41
    go_wp2
    go_ret
    exact ⟨by simp [h1]; try omega, rfl⟩
set_option maxRecDepth 100000 in
theorem size_any (w : World) (b o : Nat) (p : Option Addr) (n cap : Nat) (hc : w.cell? ⟨b, o, none⟩ = some (.slice p n cap)) : Calls Try.prog 42 #[.pointer (some ⟨b, o, none⟩)] w (same w (natV n)) := by
  unfold same
  go_enter Try.func42, Try.ntmps42
  go_wp2
  go_ret
  exact ⟨rfl, rfl⟩
end Go.Proofs.Ytapbghkoijmjeaa
