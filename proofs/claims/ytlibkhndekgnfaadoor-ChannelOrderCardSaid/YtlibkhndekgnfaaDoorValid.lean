/- Which values are valid: the program's function and the reference's. -/
import Derived.Test.YtlibkhndekgnfaaDoorRight
namespace Go.Proofs.YtlibkhndekgnfaaDoor
open Go.RowKit

def okB (c : UInt8) : Bool := decide (32 ≤ (c.toNat : Int)) && decide ((c.toNat : Int) ≤ 126)
theorem okB_yes {c : UInt8} (h1 : 32 ≤ (c.toNat : Int)) (h2 : (c.toNat : Int) ≤ 126) : okB c = true := by simp [okB]; omega
theorem okB_no {c : UInt8} (h : (c.toNat : Int) < 32 ∨ 126 < (c.toNat : Int)) : okB c = false := by simp [okB]; omega
/-- Bytes from 32 to 126. -/
def charsB (l : List UInt8) : Bool := l.all okB
def textB (l : List UInt8) : Bool := decide (l.length ≤ 60) && charsB l

theorem chars_yes {s : ByteArray} (h : ∀ i (hi : i < s.size), okB s[i] = true) : charsB s.data.toList = true := by
  unfold charsB
  rw [List.all_eq_true]
  intro c hc
  obtain ⟨i, hi, rfl⟩ := List.mem_iff_getElem.1 hc
  exact h i (by simpa using hi)
theorem chars_no {s : ByteArray} {k : Nat} (hk : k < s.size) (h : okB s[k] = false) : charsB s.data.toList = false := by
  unfold charsB
  rw [List.all_eq_false]
  exact ⟨s[k], List.mem_iff_getElem.2 ⟨k, by simpa using hk, rfl⟩, by simp [h]⟩

theorem ret_bool {a b : Bool} (h : a = b) : Ending.returned (.bool a) = .returned (.bool b) := by rw [h]
def upTo (s : ByteArray) (k : Nat) : Prop := ∀ i (hi : i < s.size), i < k → okB s[i] = true
theorem upTo_zero (s : ByteArray) : upTo s 0 := fun _ _ h => absurd h (Nat.not_lt_zero _)
theorem upTo_succ {s : ByteArray} {k : Nat} (h : upTo s k) (hk : k < s.size) (hc : okB s[k] = true) : upTo s (k + 1) := fun i hi hik => by
  by_cases e : i = k
  · subst e; exact hc
  · exact h i hi (by omega)
theorem upTo_all {s : ByteArray} {k : Nat} (h : upTo s k) (hk : s.size ≤ k) : charsB s.data.toList = true := chars_yes fun i hi => h i hi (by omega)

set_option maxHeartbeats 400000 in
theorem isText_any (s : ByteArray) (w : World) (hs : s.size ≤ 9223372036854775807) : Calls Tryd.prog 59 #[.string s] w fun e w' => e = .returned (.bool (textB s.data.toList)) ∧ w = w' := by
  by_cases hl : 60 < s.size
  · rw [show textB s.data.toList = false from by simp [textB]; omega]
    go_enter Tryd.func59, Tryd.ntmps59
    go_wp2
    go_ret
    exact ⟨rfl, rfl⟩
  · have hT : textB s.data.toList = charsB s.data.toList := by simp [textB]; omega
    rw [hT]
    clear hT
    go_enter Tryd.func59, Tryd.ntmps59
    go_wp2
    go_loop [9] (fun n => ∃ k : Nat, k ≤ s.size ∧ n = .int .i64 k ∧ upTo s k) (fun n => s.size - (intOf n).toNat)
    case atStart => exact ⟨0, Nat.zero_le _, rfl, upTo_zero s⟩
    case round =>
      obtain ⟨k, hk, rfl, hall⟩ := hrel
      by_cases hlt : k < s.size
      · by_cases h1 : (s[k].toNat : Int) < 32
        · have HN := Lib.hid (chars_no hlt (okB_no (.inl h1)))
          go_wp2
          go_ret
          exact ⟨ret_bool HN.out.symm, rfl⟩
        · by_cases h2 : 126 < (s[k].toNat : Int)
          · have HN := Lib.hid (chars_no hlt (okB_no (.inr h2)))
            go_wp2
            go_ret
            exact ⟨ret_bool (by rw [HN.out]), rfl⟩
          · have HN := upTo_succ hall hlt (okB_yes (by omega) (by omega))
            go_wp2
            go_round
            case rel => exact ⟨k + 1, by omega, by go_num, HN⟩
            case measure => simp [intOf]; omega
      · have HN := Lib.hid (upTo_all hall (by omega))
        go_wp2
        go_ret
        exact ⟨ret_bool HN.out.symm, rfl⟩

/-- Valid values, by their kinds. -/
def validB (k n : Int) (s : ByteArray) : Bool :=
  if k = 0 then decide (n = 0) && s.toList == [] else
  if k = 1 then s.toList == [] && decide (-1000000000000 ≤ n ∧ n ≤ 1000000000000) else
  if k = 2 then s.toList == [] && decide (n = 0 ∨ n = 1) else
  if k = 3 then decide (n = 0) && textB s.data.toList else
  if k = 4 ∨ k = 5 ∨ k = 6 then s.toList == [] && decide (1 ≤ n ∧ n ≤ 1000000000000) else false


/-- A truth value is returned, and only new memory was written. -/
def BPost (b : Bool) (w : World) (e : Ending) (w' : World) : Prop := e = .returned (.bool b) ∧ Below w.heap.size w w'

set_option maxHeartbeats 1000000 in
theorem valid_any (k n : Int) (s : ByteArray) (w : World) (hs : s.size ≤ 9223372036854775807) : Calls Tryd.prog 38 #[valV k n s] w (BPost (validB k n s) w) := by
  by_cases h0 : k = 0
  · subst h0
    by_cases hn : n = 0
    · subst hn
      cases he : (s.toList == [])
      · rw [show validB 0 0 s = false from by simp [validB, he]]
        go_enter Tryd.func38, Tryd.ntmps38
        go_wp2
        go_ret
        exact ⟨rfl, one _ _⟩
      · rw [show validB 0 0 s = true from by simp [validB, he]]
        go_enter Tryd.func38, Tryd.ntmps38
        go_wp2
        go_ret
        exact ⟨rfl, one _ _⟩
    · rw [show validB 0 n s = false from by simp [validB, hn]]
      have hn' : (n == 0) = false := by simpa using hn
      go_enter Tryd.func38, Tryd.ntmps38
      go_wp2
      go_ret
      exact ⟨rfl, one _ _⟩
  by_cases h1 : k = 1
  · subst h1
    cases he : (s.toList == [])
    · rw [show validB 1 n s = false from by simp [validB, he]]
      go_enter Tryd.func38, Tryd.ntmps38
      go_wp2
      go_ret
      exact ⟨rfl, one _ _⟩
    · by_cases ha : -1000000000000 ≤ n
      · by_cases hb : n ≤ 1000000000000
        · rw [show validB 1 n s = true from by simp [validB, he, ha, hb]]
          go_enter Tryd.func38, Tryd.ntmps38
          go_wp2
          go_ret
          exact ⟨rfl, one _ _⟩
        · rw [show validB 1 n s = false from by simp [validB, hb]]
          go_enter Tryd.func38, Tryd.ntmps38
          go_wp2
          go_ret
          exact ⟨ret_bool (by first | (simp; done) | (simp; omega)), one _ _⟩
      · rw [show validB 1 n s = false from by simp [validB, ha]]
        go_enter Tryd.func38, Tryd.ntmps38
        go_wp2
        go_ret
        exact ⟨ret_bool (by first | (simp; done) | (simp; omega)), one _ _⟩
  by_cases h2 : k = 2
  · subst h2
    cases he : (s.toList == [])
    · rw [show validB 2 n s = false from by simp [validB, he]]
      go_enter Tryd.func38, Tryd.ntmps38
      go_wp2
      go_ret
      exact ⟨rfl, one _ _⟩
    · by_cases ha : n = 0
      · subst ha
        rw [show validB 2 0 s = true from by simp [validB, he]]
        go_enter Tryd.func38, Tryd.ntmps38
        go_wp2
        go_ret
        exact ⟨rfl, one _ _⟩
      · by_cases hb : n = 1
        · subst hb
          rw [show validB 2 1 s = true from by simp [validB, he]]
          go_enter Tryd.func38, Tryd.ntmps38
          go_wp2
          go_ret
          exact ⟨rfl, one _ _⟩
        · rw [show validB 2 n s = false from by simp [validB, ha, hb]]
          have ha' : (n == 0) = false := by simpa using ha
          have hb' : (n == 1) = false := by simpa using hb
          go_enter Tryd.func38, Tryd.ntmps38
          go_wp2
          go_ret
          exact ⟨ret_bool (by simp []), one _ _⟩
  by_cases h3 : k = 3
  · subst h3
    by_cases hn : n = 0
    · subst hn
      rw [show validB 3 0 s = textB s.data.toList from by simp [validB]]
      go_enter Tryd.func38, Tryd.ntmps38
      go_wp2_with (go_at_call 59; refine (isText_any _ _ hs).mono ?_; rintro e w' ⟨rfl, rfl⟩)
      go_ret
      exact ⟨rfl, one _ _⟩
    · rw [show validB 3 n s = false from by simp [validB, hn]]
      have hn' : (n == 0) = false := by simpa using hn
      go_enter Tryd.func38, Tryd.ntmps38
      go_wp2
      go_ret
      exact ⟨ret_bool (by simp []), one _ _⟩
  by_cases h4 : k = 4 ∨ k = 5 ∨ k = 6
  · cases he : (s.toList == [])
    · rw [show validB k n s = false from by simp [validB, h0, h1, h2, h3, he]]
      rcases h4 with rfl | rfl | rfl <;>
      · clear h0 h1 h2 h3
        go_enter Tryd.func38, Tryd.ntmps38
        go_wp2
        go_ret
        exact ⟨rfl, one _ _⟩
    · by_cases ha : 1 ≤ n
      · by_cases hb : n ≤ 1000000000000
        · rw [show validB k n s = true from by simp [validB, h0, h1, h2, h3, h4, he, ha, hb]]
          rcases h4 with rfl | rfl | rfl <;>
          · clear h0 h1 h2 h3
            go_enter Tryd.func38, Tryd.ntmps38
            go_wp2
            go_ret
            exact ⟨rfl, one _ _⟩
        · rw [show validB k n s = false from by simp [validB, h0, h1, h2, h3, hb]]
          rcases h4 with rfl | rfl | rfl <;>
          · clear h0 h1 h2 h3
            go_enter Tryd.func38, Tryd.ntmps38
            go_wp2
            go_ret
            exact ⟨ret_bool (by first | (simp; done) | (simp; omega)), one _ _⟩
      · rw [show validB k n s = false from by simp [validB, h0, h1, h2, h3, ha]]
        rcases h4 with rfl | rfl | rfl <;>
        · clear h0 h1 h2 h3
          go_enter Tryd.func38, Tryd.ntmps38
          go_wp2
          go_ret
          exact ⟨ret_bool (by first | (simp; done) | (simp; omega)), one _ _⟩
  · rw [show validB k n s = false from by simp [validB, h0, h1, h2, h3, h4]]
    have h4' : ¬ k = 4 := fun e => h4 (.inl e)
    have h5' : ¬ k = 5 := fun e => h4 (.inr (.inl e))
    have h6' : ¬ k = 6 := fun e => h4 (.inr (.inr e))
    clear h4
    go_enter Tryd.func38, Tryd.ntmps38
    go_wp2
    go_ret
    exact ⟨rfl, one _ _⟩
end Go.Proofs.YtlibkhndekgnfaaDoor
