/- The small check. -/
import Derived.Test.YtieipohbdogljaaLead
import Derived.Test.YtieipohbdogljaaNumber
namespace Go.Proofs.Ytieipohbdogljaa
set_option linter.unusedVariables false
set_option linter.unusedSimpArgs false
open Go.RowKit
theorem readNumber_any (s : ByteArray) (w : World) (hs : s.size ≤ maxLen) : Calls Try.prog 11 #[.string s] w fun e w' => e = .returned (.tuple #[.int .i64 ((Pk.lead s.data.toList).1 : Nat), .int .i64 ((Pk.lead s.data.toList).2.1 : Nat), .int .i64 (if (Pk.lead s.data.toList).2.2 then 0 else 31)]) ∧ w = w' := by
  have C := Lib.hid (leading_any s w hs)
  unfold leadV at C
  have hz : (Pk.lead s.data.toList).2.2 = false → Pk.lead s.data.toList = (0, 0, false) := fun h => Pk.lead_bad h
  generalize Pk.lead s.data.toList = L at C hz ⊢
  obtain ⟨a, b, ok⟩ := L
  cases ok with
  | true =>
    clear hz
    go_enter Try.func11, Try.ntmps11
    go_wp2_with fail
    refine C.out.mono ?_
    rintro e w1 ⟨rfl, rfl⟩
    go_wp2
    go_ret3
    exact ⟨rfl, rfl⟩
  | false =>
    obtain ⟨rfl, rfl, _⟩ : a = 0 ∧ b = 0 ∧ True := by simpa using hz rfl
    clear hz
    go_enter Try.func11, Try.ntmps11
    go_wp2_with fail
    refine C.out.mono ?_
    rintro e w1 ⟨rfl, rfl⟩
    go_wp2
    go_ret3
    exact ⟨rfl, rfl⟩
set_option maxRecDepth 100000 in
theorem flaw_short (w : World) : Calls Try.prog 19 #[.string ⟨#[115, 98, 49]⟩] w fun e w' => e = .returned (.int .i64 1) ∧ w = w' := by
  go_enter Try.func19, Try.ntmps19
  go_wp2
  go_ret
  exact ⟨rfl, rfl⟩
set_option maxRecDepth 100000 in
theorem unpack_short (w : World) : Calls Try.prog 18 #[.string ⟨#[115, 98, 49]⟩] w fun e w' => e = .returned (.tuple #[.agg #[.slice none 0 0], .int .i64 31]) ∧ Below w.heap.size w w' := by
  have F := Lib.hid flaw_short
  have HB := Lib.hid (one w (.cells #[.slice none 0 0] 42))
  go_enter Try.func18, Try.ntmps18
  go_wp2_with fail
  refine (F.out _).mono ?_
  rintro e w1 ⟨rfl, rfl⟩
  have r0 := (Blk.new w #[.slice none 0 0] 42).cell 0 _ rfl
  go_wp2
  refine bodyPost_ret (v := .tuple #[.agg #[.slice none 0 0], .int .i64 31]) (by simp [results, Try.f18, go_sem, r0]) rfl ?_
  exact ⟨rfl, HB.out⟩
theorem enc300 : Pk.enc 300 = [172, 2] := by rw [Pk.enc_hi (by omega), Pk.enc_lo (by omega)]; rfl
theorem lead300 : Pk.lead [172, 2, 120] = (300, 2, true) := by
  have h := Pk.lead_enc 300 (by omega) [120]
  rw [enc300] at h
  exact h
set_option maxRecDepth 100000 in
set_option maxHeartbeats 2000000 in
theorem awake_any (w : World) : Calls Try.prog 13 #[] w fun e w' => e = .returned (.bool true) ∧ Below w.heap.size w w' := by
  have C1 := number_any w 300 (by omega)
  rw [enc300] at C1
  have C1 : Calls Try.prog 9 #[.int .i64 300] w fun e w' => e = .returned (.tuple #[.string ⟨#[172, 2]⟩, .int .i64 0]) ∧ Below w.heap.size w w' := C1
  have C1 := Lib.hid C1
  have C2 : ∀ w, Calls Try.prog 11 #[.string ⟨#[172, 2, 120]⟩] w fun e w' => e = .returned (.tuple #[.int .i64 300, .int .i64 2, .int .i64 0]) ∧ w = w' := fun w => by
    have h := readNumber_any ⟨#[172, 2, 120]⟩ w (by decide)
    have e : (ByteArray.mk #[172, 2, 120]).data.toList = [172, 2, 120] := rfl
    rw [e, lead300] at h
    exact h
  have C2 := Lib.hid C2
  have C3 := Lib.hid unpack_short
  have S0 : ∀ w, Calls Try.prog 7 #[.string ⟨#[]⟩] w fun e w' => e = .returned (.int .i64 1) ∧ w = w' := fun w => sum_any ⟨#[]⟩ w (by decide)
  have S1 : ∀ w, Calls Try.prog 7 #[.string ⟨#[97]⟩] w fun e w' => e = .returned (.int .i64 6422626) ∧ w = w' := fun w => sum_any ⟨#[97]⟩ w (by decide)
  have S0 := Lib.hid S0
  have S1 := Lib.hid S1
  go_enter Try.func13, Try.ntmps13
  go_wp2_with fail
  refine C1.out.mono ?_
  rintro e w1 ⟨rfl, hb1⟩
  have HB1 := Lib.hid hb1
  clear hb1 C1
  go_wp2_with fail
  refine (C2.out _).mono ?_
  rintro e w2 ⟨rfl, rfl⟩
  go_wp2_with fail
  refine (C3.out _).mono ?_
  rintro e w3 ⟨rfl, hb3⟩
  have HB3 := Lib.hid (HB1.out.trans (hb3.mono HB1.out.size))
  have HB4 := Lib.hid (HB3.out.trans ((one w3 (.cells #[.slice none 0 0] 42)).mono HB3.out.size))
  clear hb3
  go_wp2_with fail
  refine (S0.out _).mono ?_
  rintro e w4 ⟨rfl, rfl⟩
  go_wp2_with fail
  refine (S1.out _).mono ?_
  rintro e w5 ⟨rfl, rfl⟩
  go_wp2
  go_ret
  exact ⟨rfl, HB4.out⟩
end Go.Proofs.Ytieipohbdogljaa
