/- TreeFirst, with the frame of the statements. -/
import Derived.Test.YtcegmdlmnibheaaLawFirA
import Derived.Test.YtcegmdlmnibheaaLawFirB
namespace Go.Proofs.Ytcegmdlmnibheaa
set_option linter.unusedVariables false
set_option linter.unusedSimpArgs false
open Go.RowKit
set_option maxRecDepth 100000 in
theorem law_first_no (n : Int) (h : n < 1 ∨ 64 < n) (p : Option Addr) (len cp : Nat) (w : World) : Calls Try.prog 6 #[.int .i64 n, .slice p len cp] w (still w (.bool true)) := by
  unfold still
  have N := Lib.hid (new_bad w n h)
  unfold same at N
  have A13 := Lib.hid awake_any
  unfold still at A13
  clear h
  go_enter Try.func6, Try.ntmps6
  go_wp2_with fail
  refine N.out.mono ?_
  rintro e w1 ⟨rfl, rfl⟩
  go_wp2_with fail
  refine (A13.out _).mono ?_
  rintro e w9 ⟨rfl, hb9⟩
  have HBF := Lib.hid hb9
  clear hb9
  go_wp2
  go_ret
  exact ⟨rfl, HBF.out⟩
theorem law_first_c (n : Int) (v : Value) (w : World) (_ : (Lit.int .i64 n).wf = true) (hv : OpsArg w v) : Calls Try.prog 6 #[.int .i64 n, v] w fun e w' => e = .returned (.bool true) ∧ Below w.heap.size w w' := by
  obtain ⟨p, cp, L, rfl, hL⟩ := hv
  by_cases h : n < 1 ∨ 64 < n
  · exact law_first_no n h p L.length cp w
  · obtain ⟨k, rfl⟩ : ∃ k : Nat, n = (k : Int) := ⟨n.toNat, by omega⟩
    by_cases h80 : 80 < L.length
    · exact law_first_A k (by omega) (by omega) p cp L w hL h80
    · exact law_first_B k (by omega) (by omega) p cp L w hL (by omega)
end Go.Proofs.Ytcegmdlmnibheaa
