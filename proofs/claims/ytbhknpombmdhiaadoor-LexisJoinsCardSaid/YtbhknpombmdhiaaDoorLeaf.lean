/- What the small functions on one byte return, for every byte and in every memory. -/
import Derived.WalkKit
import Derived.WalkLawsBesides
import Derived.WalkSpells
import Derived.BigQuiet
import Derived.Deep.QuietTactic
import Derived.Lib.Hide
import Derived.Test.YtbhknpombmdhiaaDoorProg
import Derived.Test.YtbhknpombmdhiaaDoorSpec
namespace Go.Proofs.YtbhknpombmdhiaaDoor
open Go.RowKit

/-- A byte as a value. -/
abbrev B (c : UInt8) : Value := .int .u8 (c.toNat : Int)

theorem isLetter_any (c : UInt8) (w : World) : Calls Tryd.prog 47 #[B c] w fun e w' => e = .returned (.bool (Lx.isLetter c)) ∧ w = w' := by
  by_cases h1 : 97 ≤ (c.toNat : Int)
  · by_cases h2 : (c.toNat : Int) ≤ 122
    · rw [show Lx.isLetter c = true by simp [Lx.isLetter]; omega]
      go_enter Tryd.func47, Tryd.ntmps47
      go_wp2
      go_ret
      exact ⟨rfl, rfl⟩
    · rw [show Lx.isLetter c = false by simp [Lx.isLetter]; omega]
      go_enter Tryd.func47, Tryd.ntmps47
      go_wp2
      go_ret
      exact ⟨rfl, rfl⟩
  · rw [show Lx.isLetter c = false by simp [Lx.isLetter]; omega]
    go_enter Tryd.func47, Tryd.ntmps47
    go_wp2
    go_ret
    exact ⟨rfl, rfl⟩

theorem isDigit_any (c : UInt8) (w : World) : Calls Tryd.prog 71 #[B c] w fun e w' => e = .returned (.bool (Lx.isDigit c)) ∧ w = w' := by
  by_cases h1 : 48 ≤ (c.toNat : Int)
  · by_cases h2 : (c.toNat : Int) ≤ 57
    · rw [show Lx.isDigit c = true by simp [Lx.isDigit]; omega]
      go_enter Tryd.func71, Tryd.ntmps71
      go_wp2
      go_ret
      exact ⟨rfl, rfl⟩
    · rw [show Lx.isDigit c = false by simp [Lx.isDigit]; omega]
      go_enter Tryd.func71, Tryd.ntmps71
      go_wp2
      go_ret
      exact ⟨rfl, rfl⟩
  · rw [show Lx.isDigit c = false by simp [Lx.isDigit]; omega]
    go_enter Tryd.func71, Tryd.ntmps71
    go_wp2
    go_ret
    exact ⟨rfl, rfl⟩

theorem isPrinted_any (c : UInt8) (w : World) : Calls Tryd.prog 52 #[B c] w fun e w' => e = .returned (.bool (Lx.isPrinted c)) ∧ w = w' := by
  by_cases h1 : 32 ≤ (c.toNat : Int)
  · by_cases h2 : (c.toNat : Int) ≤ 126
    · rw [show Lx.isPrinted c = true by simp [Lx.isPrinted]; omega]
      go_enter Tryd.func52, Tryd.ntmps52
      go_wp2
      go_ret
      exact ⟨rfl, rfl⟩
    · rw [show Lx.isPrinted c = false by simp [Lx.isPrinted]; omega]
      go_enter Tryd.func52, Tryd.ntmps52
      go_wp2
      go_ret
      exact ⟨rfl, rfl⟩
  · rw [show Lx.isPrinted c = false by simp [Lx.isPrinted]; omega]
    go_enter Tryd.func52, Tryd.ntmps52
    go_wp2
    go_ret
    exact ⟨rfl, rfl⟩

theorem isLD_any (c : UInt8) (w : World) : Calls Tryd.prog 49 #[B c] w fun e w' => e = .returned (.bool (Lx.isLD c)) ∧ w = w' := by
  cases h1 : Lx.isLetter c
  · cases h2 : Lx.isDigit c
    · rw [show Lx.isLD c = false by simp [Lx.isLD, h1, h2]]
      have k1 := isLetter_any c; have k2 := isDigit_any c
      rw [h1] at k1; rw [h2] at k2
      have K1 := Lib.hid k1; have K2 := Lib.hid k2; clear k1 k2 h1 h2
      go_enter Tryd.func49, Tryd.ntmps49
      go_wp2_with (first | (go_at_call 47; refine (K1.out _).mono ?_; rintro e w' ⟨rfl, rfl⟩) | (go_at_call 71; refine (K2.out _).mono ?_; rintro e w' ⟨rfl, rfl⟩))
      go_ret
      exact ⟨rfl, rfl⟩
    · rw [show Lx.isLD c = true by simp [Lx.isLD, h1, h2]]
      have k1 := isLetter_any c; have k2 := isDigit_any c
      rw [h1] at k1; rw [h2] at k2
      have K1 := Lib.hid k1; have K2 := Lib.hid k2; clear k1 k2 h1 h2
      go_enter Tryd.func49, Tryd.ntmps49
      go_wp2_with (first | (go_at_call 47; refine (K1.out _).mono ?_; rintro e w' ⟨rfl, rfl⟩) | (go_at_call 71; refine (K2.out _).mono ?_; rintro e w' ⟨rfl, rfl⟩))
      go_ret
      exact ⟨rfl, rfl⟩
  · rw [show Lx.isLD c = true by simp [Lx.isLD, h1]]
    have k1 := isLetter_any c
    rw [h1] at k1
    have K1 := Lib.hid k1; clear k1 h1
    go_enter Tryd.func49, Tryd.ntmps49
    go_wp2_with (first | (go_at_call 47; refine (K1.out _).mono ?_; rintro e w' ⟨rfl, rfl⟩))
    go_ret
    exact ⟨rfl, rfl⟩

theorem bne_true {a b : Int} (h : ¬ a = b) : (a == b) = false := by simpa using h

theorem needsEsc_any (c : UInt8) (w : World) : Calls Tryd.prog 53 #[B c] w fun e w' => e = .returned (.bool (Lx.needsEsc c)) ∧ w = w' := by
  by_cases h1 : (c.toNat : Int) = 34
  · rw [show Lx.needsEsc c = true by simp [Lx.needsEsc]; omega]
    have g1 : ((c.toNat : Int) == 34) = true := by simpa using h1
    clear h1
    go_enter Tryd.func53, Tryd.ntmps53
    go_wp2
    go_ret
    exact ⟨rfl, rfl⟩
  · have g1 := bne_true h1
    by_cases h2 : (c.toNat : Int) = 92
    · rw [show Lx.needsEsc c = true by simp [Lx.needsEsc]; omega]
      have g2 : ((c.toNat : Int) == 92) = true := by simpa using h2
      clear h1 h2
      go_enter Tryd.func53, Tryd.ntmps53
      go_wp2
      go_ret
      exact ⟨rfl, rfl⟩
    · rw [show Lx.needsEsc c = false by simp [Lx.needsEsc]; omega]
      have g2 := bne_true h2
      clear h1 h2
      go_enter Tryd.func53, Tryd.ntmps53
      go_wp2
      go_ret
      exact ⟨rfl, rfl⟩

theorem notLF_any (c : UInt8) (w : World) : Calls Tryd.prog 76 #[B c] w fun e w' => e = .returned (.bool (Lx.notLF c)) ∧ w = w' := by
  by_cases h1 : (c.toNat : Int) = 10
  · rw [show Lx.notLF c = false by simp [Lx.notLF]; omega]
    have g1 : ((c.toNat : Int) == 10) = true := by simpa using h1
    have g2 : ((c.toNat : Int) != 10) = false := by simp [h1]
    clear h1
    go_enter Tryd.func76, Tryd.ntmps76
    go_wp2
    go_ret
    exact ⟨rfl, rfl⟩
  · rw [show Lx.notLF c = true by simp [Lx.notLF]; omega]
    have g1 := bne_true h1
    have g2 : ((c.toNat : Int) != 10) = true := by simp [h1]
    clear h1
    go_enter Tryd.func76, Tryd.ntmps76
    go_wp2
    go_ret
    exact ⟨rfl, rfl⟩

theorem isBlank_any (c : UInt8) (w : World) : Calls Tryd.prog 75 #[B c] w fun e w' => e = .returned (.bool (Lx.isBlank c)) ∧ w = w' := by
  have K : ∀ k : Int, ((c.toNat : Int) = k) ∨ ((c.toNat : Int) == k) = false := fun k => by
    by_cases h : (c.toNat : Int) = k
    · exact .inl h
    · exact .inr (bne_true h)
  rcases K 9 with h | g1
  · rw [show Lx.isBlank c = true by simp [Lx.isBlank]; omega]; unfold B; rw [h]
    clear h K
    go_enter Tryd.func75, Tryd.ntmps75
    go_wp2
    go_ret
    exact ⟨rfl, rfl⟩
  rcases K 10 with h | g2
  · rw [show Lx.isBlank c = true by simp [Lx.isBlank]; omega]; unfold B; rw [h]
    clear h K g1
    go_enter Tryd.func75, Tryd.ntmps75
    go_wp2
    go_ret
    exact ⟨rfl, rfl⟩
  rcases K 13 with h | g3
  · rw [show Lx.isBlank c = true by simp [Lx.isBlank]; omega]; unfold B; rw [h]
    clear h K g1 g2
    go_enter Tryd.func75, Tryd.ntmps75
    go_wp2
    go_ret
    exact ⟨rfl, rfl⟩
  rcases K 32 with h | g4
  · rw [show Lx.isBlank c = true by simp [Lx.isBlank]; omega]; unfold B; rw [h]
    clear h K g1 g2 g3
    go_enter Tryd.func75, Tryd.ntmps75
    go_wp2
    go_ret
    exact ⟨rfl, rfl⟩
  rw [show Lx.isBlank c = false by simp at g1 g2 g3 g4; simp [Lx.isBlank]; omega]
  clear K
  go_enter Tryd.func75, Tryd.ntmps75
  go_wp2
  go_ret
  exact ⟨rfl, rfl⟩

end Go.Proofs.YtbhknpombmdhiaaDoor
