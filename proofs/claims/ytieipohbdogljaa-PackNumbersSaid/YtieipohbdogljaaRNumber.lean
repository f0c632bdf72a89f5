/- The document's own Number. -/
import Derived.Test.YtieipohbdogljaaRef2
namespace Go.Proofs.Ytieipohbdogljaa
set_option linter.unusedVariables false
set_option linter.unusedSimpArgs false
open Go.RowKit
set_option maxRecDepth 100000 in
set_option maxHeartbeats 1000000 in
theorem rnumber_any (w : World) (n : Nat) (hn : n ≤ 9223372036854775807) : Calls Try.prog 10 #[.int .i64 (n : Int)] w fun e w' => e = .returned (str (Pk.enc n)) ∧ Below w.heap.size w w' := by
  have C := Lib.hid (rappN w n hn)
  have hu : IntKind.u64.wrap (n : Int) = (n : Int) := by unfold IntKind.wrap; simp [IntKind.bits, IntKind.signed]; omega
  unfold encPost at C
  go_enter Try.func10, Try.ntmps10
  go_wp2_with fail
  refine C.out.mono ?_
  rintro e w1 ⟨v, rfl, hr, hb⟩
  have hcv := conv_bytes hr (enc_ne n)
  have HB := Lib.hid hb
  obtain ⟨p, cap, e, _⟩ := owns_form hr
  subst e
  clear hr hb C hu
  go_wp2
  go_ret
  exact ⟨rfl, HB.out⟩
end Go.Proofs.Ytieipohbdogljaa
