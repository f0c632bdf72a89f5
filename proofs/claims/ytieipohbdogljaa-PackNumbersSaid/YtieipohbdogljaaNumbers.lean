/- PackNumbers. -/
import Derived.Test.YtieipohbdogljaaAwake
import Derived.Test.YtieipohbdogljaaRef
import Derived.Test.YtieipohbdogljaaRNumber
import Derived.Test.YtieipohbdogljaaRLead
namespace Go.Proofs.Ytieipohbdogljaa
set_option linter.unusedVariables false
set_option linter.unusedSimpArgs false
open Go.RowKit
/-- The end of the statement: what both ways to read a number say. -/
def ends (w : World) (a b f x y : Int) (ok : Bool) : Prop := (ok = true → a = x ∧ b = y ∧ f = 0) ∧ (ok = false → a = 0 ∧ b = 0 ∧ f = 31)
set_option maxRecDepth 100000 in
set_option maxHeartbeats 4000000 in
theorem num_core (w : World) (n q a b f x y : Int) (ok : Bool) (s u S : ByteArray) (hu : n < 0 ∨ 0 ≤ n)
    (BR : Hid (Calls Try.prog 6 #[.string s] w fun e w' => e = .returned (.string u) ∧ w = w'))
    (S1 : Hid (∀ w, Calls Try.prog 7 #[.string u] w fun e w' => e = .returned (.int .i64 q) ∧ w = w'))
    (S2 : Hid (∀ w, Calls Try.prog 8 #[.string u] w fun e w' => e = .returned (.int .i64 q) ∧ w = w'))
    (N0 : Hid (n < 0 → ∀ w, Calls Try.prog 9 #[.int .i64 n] w fun e w' => e = .returned (.tuple #[.string ⟨#[]⟩, .int .i64 30]) ∧ w = w'))
    (N1 : Hid (0 ≤ n → ∀ w, Calls Try.prog 9 #[.int .i64 n] w fun e w' => e = .returned (.tuple #[.string S, .int .i64 0]) ∧ Below w.heap.size w w'))
    (N2 : Hid (0 ≤ n → ∀ w, Calls Try.prog 10 #[.int .i64 n] w fun e w' => e = .returned (.string S) ∧ Below w.heap.size w w'))
    (R1 : Hid (∀ w, Calls Try.prog 11 #[.string u] w fun e w' => e = .returned (.tuple #[.int .i64 a, .int .i64 b, .int .i64 f]) ∧ w = w'))
    (R2 : Hid (∀ w, Calls Try.prog 12 #[.string u] w fun e w' => e = .returned (.tuple #[.int .i64 x, .int .i64 y, .bool ok]) ∧ w = w'))
    (EN : ends w a b f x y ok) :
    Calls Try.prog 3 #[.int .i64 n, .string s] w fun e w' => e = .returned (.bool true) ∧ Below w.heap.size w w' := by
  have AW := Lib.hid awake_any
  have HEN := Lib.hid EN
  have HTAIL : Hid (Below w.heap.size w w) := Lib.hid (Below.refl _ _)
  clear EN
  go_enter Try.func3, Try.ntmps3
  go_wp2_with fail
  refine BR.out.mono ?_
  rintro e w1 ⟨rfl, rfl⟩
  go_wp2_with fail
  refine (S1.out _).mono ?_
  rintro e w1 ⟨rfl, rfl⟩
  go_wp2_with fail
  refine (S2.out _).mono ?_
  rintro e w1 ⟨rfl, rfl⟩
  rcases hu with hn | hn
  · have NN := Lib.hid (N0.out hn)
    clear N0 N1 N2
    go_wp2_with fail
    refine (NN.out _).mono ?_
    rintro e w1 ⟨rfl, rfl⟩
    go_wp2_with fail
    refine (R1.out _).mono ?_
    rintro e w1 ⟨rfl, rfl⟩
    go_wp2_with fail
    refine (R2.out _).mono ?_
    rintro e w1 ⟨rfl, rfl⟩
    cases ok with
    | true =>
      obtain ⟨rfl, rfl, rfl⟩ := HEN.out.1 rfl
      go_wp2_with fail
      refine (AW.out _).mono ?_
      rintro e w2 ⟨rfl, hb⟩
      have HB := Lib.hid hb
      clear hb
      go_wp2
      go_ret
      exact ⟨rfl, HB.out⟩
    | false =>
      obtain ⟨rfl, rfl, rfl⟩ := HEN.out.2 rfl
      go_wp2_with fail
      refine (AW.out _).mono ?_
      rintro e w2 ⟨rfl, hb⟩
      have HB := Lib.hid hb
      clear hb
      go_wp2
      go_ret
      exact ⟨rfl, HB.out⟩
  · have NN := Lib.hid (N1.out hn)
    have NM := Lib.hid (N2.out hn)
    have hn2 : ¬ n < 0 := by omega
    clear N0 N1 N2
    go_wp2_with fail
    refine (NN.out _).mono ?_
    rintro e w1 ⟨rfl, hb⟩
    have HB1 := Lib.hid hb
    clear hb
    go_wp2_with fail
    refine (NM.out _).mono ?_
    rintro e w2 ⟨rfl, hb⟩
    have HB2 := Lib.hid (HB1.out.trans (hb.mono HB1.out.size))
    clear hb
    go_wp2_with fail
    refine (R1.out _).mono ?_
    rintro e w1 ⟨rfl, rfl⟩
    go_wp2_with fail
    refine (R2.out _).mono ?_
    rintro e w1 ⟨rfl, rfl⟩
    cases ok with
    | true =>
      obtain ⟨rfl, rfl, rfl⟩ := HEN.out.1 rfl
      go_wp2_with fail
      refine (AW.out _).mono ?_
      rintro e w3 ⟨rfl, hb⟩
      have HB := Lib.hid (HB2.out.trans (hb.mono HB2.out.size))
      clear hb
      go_wp2
      go_ret
      exact ⟨rfl, HB.out⟩
    | false =>
      obtain ⟨rfl, rfl, rfl⟩ := HEN.out.2 rfl
      go_wp2_with fail
      refine (AW.out _).mono ?_
      rintro e w3 ⟨rfl, hb⟩
      have HB := Lib.hid (HB2.out.trans (hb.mono HB2.out.size))
      clear hb
      go_wp2
      go_ret
      exact ⟨rfl, HB.out⟩
end Go.Proofs.Ytieipohbdogljaa
