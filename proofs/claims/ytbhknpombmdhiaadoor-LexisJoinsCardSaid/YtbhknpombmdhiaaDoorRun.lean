/- How many bytes at the beginning of a string are of a kind: what the function run returns, for each of the three kinds that it is called with. -/
import Derived.Test.YtbhknpombmdhiaaDoorLeaf
namespace Go.Proofs.YtbhknpombmdhiaaDoor
open Go.RowKit

theorem ret_int {k : IntKind} {a b : Int} (h : a = b) : Ending.returned (.int k a) = .returned (.int k b) := by rw [h]
theorem getB (r : ByteArray) (i : Nat) (h : i < r.size) : r.data.toList[i]'(by simpa using h) = r[i] := rfl


set_option maxHeartbeats 400000 in
theorem run_isLD (r : ByteArray) (w : World) (hr : r.size ≤ 9223372036854775807) :
    Calls Tryd.prog 48 #[.string r, .func (.func 49) #[] #[]] w fun e w' => e = .returned (.int .i64 (Lx.run Lx.isLD r.data.toList : Nat)) ∧ w = w' := by
  go_enter Tryd.func48, Tryd.ntmps48
  go_wp2
  go_loop [5] (fun n => ∃ k : Nat, k ≤ r.size ∧ n = .int .i64 k ∧ Hid (∀ i (h : i < r.size), i < k → Lx.isLD r[i] = true)) (fun n => r.size - (intOf n).toNat)
  case atStart => exact ⟨0, Nat.zero_le _, rfl, Lib.hid fun i _ h => absurd h (Nat.not_lt_zero _)⟩
  case round =>
    obtain ⟨k, hk, rfl, hall⟩ := hrel
    by_cases hlt : k < r.size
    · cases hp : Lx.isLD r[k]
      · have K := isLD_any r[k]
        rw [hp] at K
        have hrun : Lx.run Lx.isLD r.data.toList = k := Lx.run_eq _ _ k (by simpa using hk) (fun i h => hall.out i (by omega) h) (fun h => hp)
        have HR := Lib.hid hrun
        have KK := Lib.hid K
        clear hrun K hp
        go_wp2_with (go_at_call 49; refine (KK.out _).mono ?_; rintro e w' ⟨rfl, rfl⟩)
        go_ret
        exact ⟨ret_int (by rw [HR.out]), rfl⟩
      · have K := isLD_any r[k]
        rw [hp] at K
        have hall' : ∀ i (h : i < r.size), i < k + 1 → Lx.isLD r[i] = true := fun i h hi => by
          by_cases e : i = k
          · subst e; exact hp
          · exact hall.out i h (by omega)
        have HR := Lib.hid hall'
        have KK := Lib.hid K
        clear hall' K hp hall
        go_wp2_with (go_at_call 49; refine (KK.out _).mono ?_; rintro e w' ⟨rfl, rfl⟩)
        go_round
        case rel => exact ⟨k + 1, by omega, by go_num, HR⟩
        case measure => simp [intOf]; omega
    · have hrun : Lx.run Lx.isLD r.data.toList = k := Lx.run_eq _ _ k (by simpa using hk) (fun i h => hall.out i (by omega) h) (fun h => absurd (by simpa using h) hlt)
      have HR := Lib.hid hrun
      clear hrun
      go_wp2
      go_ret
      exact ⟨ret_int (by rw [HR.out]), rfl⟩

set_option maxHeartbeats 400000 in
theorem run_isDigit (r : ByteArray) (w : World) (hr : r.size ≤ 9223372036854775807) :
    Calls Tryd.prog 48 #[.string r, .func (.func 71) #[] #[]] w fun e w' => e = .returned (.int .i64 (Lx.run Lx.isDigit r.data.toList : Nat)) ∧ w = w' := by
  go_enter Tryd.func48, Tryd.ntmps48
  go_wp2
  go_loop [5] (fun n => ∃ k : Nat, k ≤ r.size ∧ n = .int .i64 k ∧ Hid (∀ i (h : i < r.size), i < k → Lx.isDigit r[i] = true)) (fun n => r.size - (intOf n).toNat)
  case atStart => exact ⟨0, Nat.zero_le _, rfl, Lib.hid fun i _ h => absurd h (Nat.not_lt_zero _)⟩
  case round =>
    obtain ⟨k, hk, rfl, hall⟩ := hrel
    by_cases hlt : k < r.size
    · cases hp : Lx.isDigit r[k]
      · have K := isDigit_any r[k]
        rw [hp] at K
        have hrun : Lx.run Lx.isDigit r.data.toList = k := Lx.run_eq _ _ k (by simpa using hk) (fun i h => hall.out i (by omega) h) (fun h => hp)
        have HR := Lib.hid hrun
        have KK := Lib.hid K
        clear hrun K hp
        go_wp2_with (go_at_call 71; refine (KK.out _).mono ?_; rintro e w' ⟨rfl, rfl⟩)
        go_ret
        exact ⟨ret_int (by rw [HR.out]), rfl⟩
      · have K := isDigit_any r[k]
        rw [hp] at K
        have hall' : ∀ i (h : i < r.size), i < k + 1 → Lx.isDigit r[i] = true := fun i h hi => by
          by_cases e : i = k
          · subst e; exact hp
          · exact hall.out i h (by omega)
        have HR := Lib.hid hall'
        have KK := Lib.hid K
        clear hall' K hp hall
        go_wp2_with (go_at_call 71; refine (KK.out _).mono ?_; rintro e w' ⟨rfl, rfl⟩)
        go_round
        case rel => exact ⟨k + 1, by omega, by go_num, HR⟩
        case measure => simp [intOf]; omega
    · have hrun : Lx.run Lx.isDigit r.data.toList = k := Lx.run_eq _ _ k (by simpa using hk) (fun i h => hall.out i (by omega) h) (fun h => absurd (by simpa using h) hlt)
      have HR := Lib.hid hrun
      clear hrun
      go_wp2
      go_ret
      exact ⟨ret_int (by rw [HR.out]), rfl⟩

set_option maxHeartbeats 400000 in
theorem run_notLF (r : ByteArray) (w : World) (hr : r.size ≤ 9223372036854775807) :
    Calls Tryd.prog 48 #[.string r, .func (.func 76) #[] #[]] w fun e w' => e = .returned (.int .i64 (Lx.run Lx.notLF r.data.toList : Nat)) ∧ w = w' := by
  go_enter Tryd.func48, Tryd.ntmps48
  go_wp2
  go_loop [5] (fun n => ∃ k : Nat, k ≤ r.size ∧ n = .int .i64 k ∧ Hid (∀ i (h : i < r.size), i < k → Lx.notLF r[i] = true)) (fun n => r.size - (intOf n).toNat)
  case atStart => exact ⟨0, Nat.zero_le _, rfl, Lib.hid fun i _ h => absurd h (Nat.not_lt_zero _)⟩
  case round =>
    obtain ⟨k, hk, rfl, hall⟩ := hrel
    by_cases hlt : k < r.size
    · cases hp : Lx.notLF r[k]
      · have K := notLF_any r[k]
        rw [hp] at K
        have hrun : Lx.run Lx.notLF r.data.toList = k := Lx.run_eq _ _ k (by simpa using hk) (fun i h => hall.out i (by omega) h) (fun h => hp)
        have HR := Lib.hid hrun
        have KK := Lib.hid K
        clear hrun K hp
        go_wp2_with (go_at_call 76; refine (KK.out _).mono ?_; rintro e w' ⟨rfl, rfl⟩)
        go_ret
        exact ⟨ret_int (by rw [HR.out]), rfl⟩
      · have K := notLF_any r[k]
        rw [hp] at K
        have hall' : ∀ i (h : i < r.size), i < k + 1 → Lx.notLF r[i] = true := fun i h hi => by
          by_cases e : i = k
          · subst e; exact hp
          · exact hall.out i h (by omega)
        have HR := Lib.hid hall'
        have KK := Lib.hid K
        clear hall' K hp hall
        go_wp2_with (go_at_call 76; refine (KK.out _).mono ?_; rintro e w' ⟨rfl, rfl⟩)
        go_round
        case rel => exact ⟨k + 1, by omega, by go_num, HR⟩
        case measure => simp [intOf]; omega
    · have hrun : Lx.run Lx.notLF r.data.toList = k := Lx.run_eq _ _ k (by simpa using hk) (fun i h => hall.out i (by omega) h) (fun h => absurd (by simpa using h) hlt)
      have HR := Lib.hid hrun
      clear hrun
      go_wp2
      go_ret
      exact ⟨ret_int (by rw [HR.out]), rfl⟩

end Go.Proofs.YtbhknpombmdhiaaDoor
