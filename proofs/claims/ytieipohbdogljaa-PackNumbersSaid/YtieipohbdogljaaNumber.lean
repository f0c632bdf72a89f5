/- What Number does. -/
import Derived.Test.YtieipohbdogljaaNum
namespace Go.Proofs.Ytieipohbdogljaa
set_option linter.unusedVariables false
set_option linter.unusedSimpArgs false
open Go.RowKit
abbrev str (l : List UInt8) : Value := .string ⟨l.toArray⟩
theorem conv_bytes {W : World} {b : Nat} {v : Value} {l : List UInt8} (h : W.ownsRow b 5 1 v l.length (bts l)) (h0 : l ≠ []) : (convert 37 9 v).run Try.prog W = .ok (str l) W := by
  rcases h.2 with ⟨_, h1⟩ | ⟨g, cap, cur, e, _⟩
  · exact absurd (List.eq_nil_of_length_eq_zero h1) h0
  · subst e
    refine run_convert_bytes_back W 37 9 5 ⟨g, 0, none⟩ cap l Try.underlying37 Try.underlying5 Try.underlying9 (fun j hj => ?_)
    exact h.cells (g := g) rfl j _ (by simp [bts, List.getElem?_eq_getElem hj])
theorem enc_ne (n : Nat) : Pk.enc n ≠ [] := by
  obtain ⟨p, c, e, _⟩ := Pk.enc_form n
  rw [e]; simp
set_option maxRecDepth 100000 in
set_option maxHeartbeats 1000000 in
theorem number_any (w : World) (n : Nat) (hn : n ≤ 9223372036854775807) : Calls Try.prog 9 #[.int .i64 (n : Int)] w fun e w' => e = .returned (.tuple #[str (Pk.enc n), .int .i64 0]) ∧ Below w.heap.size w w' := by
  have C := Lib.hid (appN w n hn)
  unfold encPost at C
  go_enter Try.func9, Try.ntmps9
  go_wp2_with fail
  refine C.out.mono ?_
  rintro e w1 ⟨v, rfl, hr, hb⟩
  have hcv := conv_bytes hr (enc_ne n)
  have HB := Lib.hid hb
  obtain ⟨p, cap, e, _⟩ := owns_form hr
  subst e
  clear hr hb C
  go_wp2
  go_ret2
  exact ⟨rfl, HB.out⟩
set_option maxRecDepth 100000 in
theorem number_neg (w : World) (x : Int) (hx : x < 0) : Calls Try.prog 9 #[.int .i64 x] w fun e w' => e = .returned (.tuple #[.string ⟨#[]⟩, .int .i64 30]) ∧ w = w' := by
  go_enter Try.func9, Try.ntmps9
  go_wp2
  go_ret2
  exact ⟨rfl, rfl⟩
end Go.Proofs.Ytieipohbdogljaa
