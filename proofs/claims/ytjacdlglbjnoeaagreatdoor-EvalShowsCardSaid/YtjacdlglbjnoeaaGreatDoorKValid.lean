/- Which values are valid: the reference's function. -/
import Derived.Test.YtjacdlglbjnoeaaGreatDoorValid
namespace Go.Proofs.YtjacdlglbjnoeaaGreatDoor
open Go.RowKit


set_option maxHeartbeats 1000000 in
theorem kvalid_any (k n : Int) (s : ByteArray) (w : World) (hs : s.size ≤ 9223372036854775807) : Calls Tryz.prog 23 #[valV k n s] w (BPost (validB k n s) w) := by
  by_cases h0 : k = 0
  · subst h0
    by_cases hn : n = 0
    · subst hn
      cases he : (s.toList == [])
      · rw [show validB 0 0 s = false from by simp [validB, he]]
        go_enter Tryz.func23, Tryz.ntmps23
        go_wp2
        (all_goals (go_ret; exact ⟨ret_bool (by first | rfl | (simp; done) | (simp; omega) | (simp_all; done) | (simp_all; omega)), one _ _⟩))
      · rw [show validB 0 0 s = true from by simp [validB, he]]
        go_enter Tryz.func23, Tryz.ntmps23
        go_wp2
        (all_goals (go_ret; exact ⟨ret_bool (by first | rfl | (simp; done) | (simp; omega) | (simp_all; done) | (simp_all; omega)), one _ _⟩))
    · rw [show validB 0 n s = false from by simp [validB, hn]]
      have hn' : (n == 0) = false := by simpa using hn
      go_enter Tryz.func23, Tryz.ntmps23
      go_wp2
      (all_goals (go_ret; exact ⟨ret_bool (by first | rfl | (simp; done) | (simp; omega) | (simp_all; done) | (simp_all; omega)), one _ _⟩))
  by_cases h1 : k = 1
  · subst h1
    cases he : (s.toList == [])
    · rw [show validB 1 n s = false from by simp [validB, he]]
      go_enter Tryz.func23, Tryz.ntmps23
      go_wp2
      (all_goals (go_ret; exact ⟨ret_bool (by first | rfl | (simp; done) | (simp; omega) | (simp_all; done) | (simp_all; omega)), one _ _⟩))
    · by_cases ha : -1000000000000 ≤ n
      · by_cases hb : n ≤ 1000000000000
        · rw [show validB 1 n s = true from by simp [validB, he, ha, hb]]
          go_enter Tryz.func23, Tryz.ntmps23
          go_wp2
          (all_goals (go_ret; exact ⟨ret_bool (by first | rfl | (simp; done) | (simp; omega) | (simp_all; done) | (simp_all; omega)), one _ _⟩))
        · rw [show validB 1 n s = false from by simp [validB, hb]]
          go_enter Tryz.func23, Tryz.ntmps23
          go_wp2
          (all_goals (go_ret; exact ⟨ret_bool (by first | rfl | (simp; done) | (simp; omega) | (simp_all; done) | (simp_all; omega)), one _ _⟩))
      · rw [show validB 1 n s = false from by simp [validB, ha]]
        go_enter Tryz.func23, Tryz.ntmps23
        go_wp2
        (all_goals (go_ret; exact ⟨ret_bool (by first | rfl | (simp; done) | (simp; omega) | (simp_all; done) | (simp_all; omega)), one _ _⟩))
  by_cases h2 : k = 2
  · subst h2
    cases he : (s.toList == [])
    · rw [show validB 2 n s = false from by simp [validB, he]]
      go_enter Tryz.func23, Tryz.ntmps23
      go_wp2
      (all_goals (go_ret; exact ⟨ret_bool (by first | rfl | (simp; done) | (simp; omega) | (simp_all; done) | (simp_all; omega)), one _ _⟩))
    · by_cases ha : n = 0
      · subst ha
        rw [show validB 2 0 s = true from by simp [validB, he]]
        go_enter Tryz.func23, Tryz.ntmps23
        go_wp2
        (all_goals (go_ret; exact ⟨ret_bool (by first | rfl | (simp; done) | (simp; omega) | (simp_all; done) | (simp_all; omega)), one _ _⟩))
      · by_cases hb : n = 1
        · subst hb
          rw [show validB 2 1 s = true from by simp [validB, he]]
          go_enter Tryz.func23, Tryz.ntmps23
          go_wp2
          (all_goals (go_ret; exact ⟨ret_bool (by first | rfl | (simp; done) | (simp; omega) | (simp_all; done) | (simp_all; omega)), one _ _⟩))
        · rw [show validB 2 n s = false from by simp [validB, ha, hb]]
          have ha' : (n == 0) = false := by simpa using ha
          have hb' : (n == 1) = false := by simpa using hb
          go_enter Tryz.func23, Tryz.ntmps23
          go_wp2
          (all_goals (go_ret; exact ⟨ret_bool (by first | rfl | (simp; done) | (simp; omega) | (simp_all; done) | (simp_all; omega)), one _ _⟩))
  by_cases h3 : k = 3
  · subst h3
    by_cases hn : n = 0
    · subst hn
      by_cases hl : s.size ≤ 60
      · rw [show validB 3 0 s = charsB s.data.toList from by simp [validB, textB, hl]]
        clear h0 h1 h2
        go_enter Tryz.func23, Tryz.ntmps23
        go_wp2
        go_loop [3] (fun n => ∃ k : Nat, k ≤ s.size ∧ n = .int .i64 k ∧ upTo s k) (fun n => s.size - (intOf n).toNat)
        case atStart => exact ⟨0, Nat.zero_le _, rfl, upTo_zero s⟩
        case round =>
          obtain ⟨k, hk, rfl, hall⟩ := hrel
          by_cases hlt : k < s.size
          · by_cases h1 : (s[k].toNat : Int) < 32
            · have HN := Lib.hid (chars_no hlt (okB_no (.inl h1)))
              go_wp2
              go_ret
              exact ⟨ret_bool HN.out.symm, one _ _⟩
            · by_cases h2 : 126 < (s[k].toNat : Int)
              · have HN := Lib.hid (chars_no hlt (okB_no (.inr h2)))
                go_wp2
                all_goals (go_ret; exact ⟨ret_bool (by first | exact HN.out.symm | (rw [HN.out]; done) | (rw [HN.out]; first | rfl | (simp; done) | (simp; omega) | (simp_all; done))), one _ _⟩)
              · have HN := upTo_succ hall hlt (okB_yes (by omega) (by omega))
                go_wp2
                go_round
                case rel => exact ⟨k + 1, by omega, by go_num, HN⟩
                case measure => simp [intOf]; omega
          · have HN := Lib.hid (upTo_all hall (by omega))
            go_wp2
            all_goals (go_ret; exact ⟨ret_bool (by first | exact HN.out.symm | (rw [HN.out]; done) | (rw [HN.out]; first | rfl | (simp; done) | (simp; omega) | (simp_all; done))), one _ _⟩)
      · rw [show validB 3 0 s = false from by simp [validB, textB, hl]]
        clear h0 h1 h2
        go_enter Tryz.func23, Tryz.ntmps23
        go_wp2
        go_loop [3] (fun n => ∃ k : Nat, k ≤ s.size ∧ n = .int .i64 k) (fun n => s.size - (intOf n).toNat)
        case atStart => exact ⟨0, Nat.zero_le _, rfl⟩
        case round =>
          obtain ⟨k, hk, rfl⟩ := hrel
          by_cases hlt : k < s.size
          · by_cases h1 : (s[k].toNat : Int) < 32
            · go_wp2
              (all_goals (go_ret; exact ⟨ret_bool (by first | rfl | (simp; done) | (simp; omega) | (simp_all; done) | (simp_all; omega)), one _ _⟩))
            · by_cases h2 : 126 < (s[k].toNat : Int)
              · go_wp2
                (all_goals (go_ret; exact ⟨ret_bool (by first | rfl | (simp; done) | (simp; omega) | (simp_all; done) | (simp_all; omega)), one _ _⟩))
              · go_wp2
                go_round
                case rel => exact ⟨k + 1, by omega, by go_num⟩
                case measure => simp [intOf]; omega
          · go_wp2
            (all_goals (go_ret; exact ⟨ret_bool (by first | rfl | (simp; done) | (simp; omega) | (simp_all; done) | (simp_all; omega)), one _ _⟩))
    · rw [show validB 3 n s = false from by simp [validB, hn]]
      have hn' : (n == 0) = false := by simpa using hn
      clear h0 h1 h2
      go_enter Tryz.func23, Tryz.ntmps23
      go_wp2
      go_loop [3] (fun n => ∃ k : Nat, k ≤ s.size ∧ n = .int .i64 k) (fun n => s.size - (intOf n).toNat)
      case atStart => exact ⟨0, Nat.zero_le _, rfl⟩
      case round =>
        obtain ⟨k, hk, rfl⟩ := hrel
        by_cases hlt : k < s.size
        · by_cases h1 : (s[k].toNat : Int) < 32
          · go_wp2
            (all_goals (go_ret; exact ⟨ret_bool (by first | rfl | (simp; done) | (simp; omega) | (simp_all; done) | (simp_all; omega)), one _ _⟩))
          · by_cases h2 : 126 < (s[k].toNat : Int)
            · go_wp2
              (all_goals (go_ret; exact ⟨ret_bool (by first | rfl | (simp; done) | (simp; omega) | (simp_all; done) | (simp_all; omega)), one _ _⟩))
            · go_wp2
              go_round
              case rel => exact ⟨k + 1, by omega, by go_num⟩
              case measure => simp [intOf]; omega
        · go_wp2
          (all_goals (go_ret; exact ⟨ret_bool (by first | rfl | (simp; done) | (simp; omega) | (simp_all; done) | (simp_all; omega)), one _ _⟩))
  by_cases h4 : k = 4 ∨ k = 5 ∨ k = 6
  · cases he : (s.toList == [])
    · rw [show validB k n s = false from by simp [validB, h0, h1, h2, h3, he]]
      rcases h4 with rfl | rfl | rfl <;>
      · clear h0 h1 h2 h3
        go_enter Tryz.func23, Tryz.ntmps23
        go_wp2
        (all_goals (go_ret; exact ⟨ret_bool (by first | rfl | (simp; done) | (simp; omega) | (simp_all; done) | (simp_all; omega)), one _ _⟩))
    · by_cases ha : 1 ≤ n
      · by_cases hb : n ≤ 1000000000000
        · rw [show validB k n s = true from by simp [validB, h0, h1, h2, h3, h4, he, ha, hb]]
          rcases h4 with rfl | rfl | rfl <;>
          · clear h0 h1 h2 h3
            go_enter Tryz.func23, Tryz.ntmps23
            go_wp2
            (all_goals (go_ret; exact ⟨ret_bool (by first | rfl | (simp; done) | (simp; omega) | (simp_all; done) | (simp_all; omega)), one _ _⟩))
        · rw [show validB k n s = false from by simp [validB, h0, h1, h2, h3, hb]]
          rcases h4 with rfl | rfl | rfl <;>
          · clear h0 h1 h2 h3
            go_enter Tryz.func23, Tryz.ntmps23
            go_wp2
            (all_goals (go_ret; exact ⟨ret_bool (by first | rfl | (simp; done) | (simp; omega) | (simp_all; done) | (simp_all; omega)), one _ _⟩))
      · rw [show validB k n s = false from by simp [validB, h0, h1, h2, h3, ha]]
        rcases h4 with rfl | rfl | rfl <;>
        · clear h0 h1 h2 h3
          go_enter Tryz.func23, Tryz.ntmps23
          go_wp2
          (all_goals (go_ret; exact ⟨ret_bool (by first | rfl | (simp; done) | (simp; omega) | (simp_all; done) | (simp_all; omega)), one _ _⟩))
  · rw [show validB k n s = false from by simp [validB, h0, h1, h2, h3, h4]]
    have h4' : ¬ k = 4 := fun e => h4 (.inl e)
    have h5' : ¬ k = 5 := fun e => h4 (.inr (.inl e))
    have h6' : ¬ k = 6 := fun e => h4 (.inr (.inr e))
    clear h4
    go_enter Tryz.func23, Tryz.ntmps23
    go_wp2
    (all_goals (go_ret; exact ⟨ret_bool (by first | rfl | (simp; done) | (simp; omega) | (simp_all; done) | (simp_all; omega)), one _ _⟩))
end Go.Proofs.YtjacdlglbjnoeaaGreatDoor
