/- Binary of the program and of the reference return the same, for every operator and all valid values. -/
import Derived.Test.YtjacdlglbjnoeaaGreatDoorBinCmp
import Derived.Test.YtjacdlglbjnoeaaGreatDoorBinRest
import Derived.Test.YtjacdlglbjnoeaaGreatDoorEq
import Derived.Test.YtjacdlglbjnoeaaGreatDoorLazy
import Derived.Test.YtjacdlglbjnoeaaGreatDoorAddC
import Derived.Test.YtjacdlglbjnoeaaGreatDoorRefCmp
import Derived.Test.YtjacdlglbjnoeaaGreatDoorRefArith
import Derived.Test.YtjacdlglbjnoeaaGreatDoorRefLazy
import Derived.Test.YtjacdlglbjnoeaaGreatDoorAwake
namespace Go.Proofs.YtjacdlglbjnoeaaGreatDoor
open Go.RowKit

/-- What Binary of the program returns. -/
def BinyPost (op k n : Int) (s : ByteArray) (k' n' : Int) (s' : ByteArray) (rk rn : Int) (rs : ByteArray) (fk : Int) (ft : ByteArray) : Prop :=
  ∀ w, Calls Tryz.prog 21 #[.int .i64 op, valV k n s, valV k' n' s'] w fun e w' => e = .returned (binR rk rn rs fk ft 0) ∧ Below w.heap.size w w'
/-- Both return the same. -/
def Both (op k n : Int) (s : ByteArray) (k' n' : Int) (s' : ByteArray) : Prop :=
  ∃ rk rn rs fk ft, BinyPost op k n s k' n' s' rk rn rs fk ft ∧ RefPost op k n s k' n' s' rk rn rs fk ft

theorem empty_of {s : ByteArray} (h : (s.toList == []) = true) : s = noS := toList_inj (by
  have e : noS.toList = [] := by decide +kernel
  rw [e]; exact h)

/-- What a valid value has. -/
theorem valid_facts {k n : Int} {s : ByteArray} (h : validB k n s = true) : 0 ≤ k ∧ -1000000000000 ≤ n ∧ n ≤ 1000000000000 ∧ s.size ≤ 60 ∧ (k = 1 → s = noS) ∧ (k = 2 → s = noS ∧ (n = 0 ∨ n = 1)) ∧ (k = 3 → n = 0) := by
  have z : noS.size = 0 := rfl
  by_cases h0 : k = 0
  · subst h0
    simp [validB] at h
    have e := empty_of (s := s) (by simpa using h.2)
    subst e
    exact ⟨by omega, by omega, by omega, by omega, fun e => by omega, fun e => by omega, fun e => by omega⟩
  by_cases h1 : k = 1
  · subst h1
    simp [validB] at h
    have e := empty_of (s := s) (by simpa using h.1)
    subst e
    exact ⟨by omega, by omega, by omega, by omega, fun _ => rfl, fun e => by omega, fun e => by omega⟩
  by_cases h2 : k = 2
  · subst h2
    simp [validB] at h
    have e := empty_of (s := s) (by simpa using h.1)
    subst e
    exact ⟨by omega, by omega, by omega, by omega, fun e => by omega, fun _ => ⟨rfl, h.2⟩, fun e => by omega⟩
  by_cases h3 : k = 3
  · subst h3
    simp [validB, textB] at h
    exact ⟨by omega, by omega, by omega, h.2.1, fun e => by omega, fun e => by omega, fun _ => h.1⟩
  by_cases h4 : k = 4 ∨ k = 5 ∨ k = 6
  · simp [validB, h0, h1, h2, h3, h4] at h
    have e := empty_of (s := s) (by simpa using h.1)
    subst e
    exact ⟨by omega, by omega, by omega, by omega, fun e => by omega, fun e => by omega, fun e => by omega⟩
  · simp [validB, h0, h1, h2, h3, h4] at h

theorem small60 {s : ByteArray} (h : s.size ≤ 60) : s.size ≤ 9223372036854775807 := by omega

theorem res_arith {k k' : Int} (op : Int) (ho : 16 ≤ op) (h1 : ¬ (k = 1 ∧ k' = 1)) : resI op k k' = -1 := by
  unfold resI
  by_cases e : k = k'
  · subst e
    have e1 : k ≠ 1 := fun h => h1 ⟨h, h⟩
    have o1 : ¬ (op = 9 ∨ op = 10) := by omega
    have o2 : ¬ (11 ≤ op ∧ op ≤ 14) := by omega
    have o3 : ¬ op = 15 := by omega
    simp [e1, o1, o2, o3]
  · simp [e]

section
variable {k n : Int} {s : ByteArray} {k' n' : Int} {s' : ByteArray} (v1 : validB k n s = true) (v2 : validB k' n' s' = true)
include v1 v2

theorem both_7 : Both 7 k n s k' n' s' := by
  obtain ⟨a0, a1, a2, a3, _, a5, _⟩ := valid_facts v1
  obtain ⟨b0, b1, b2, b3, _, b5, _⟩ := valid_facts v2
  by_cases hk : k = 2
  · subst hk
    obtain ⟨rfl, rfl | rfl⟩ := a5 rfl
    · by_cases hk' : k' = 2
      · subst hk'
        exact ⟨2, n', s', 0, noS, fun w => binary_7 2 0 noS 2 n' s' 2 n' s' 0 noS w v1 v2 (small60 a3) (small60 b3) (Lib.hid fun w1 b hb => lazy_walk 7 2 0 noS 2 n' s' false b w1 hb (Lib.hid settles70) rfl), rb_7_w noS n' s'⟩
      · have e : (k' != 2) = true := by simpa using hk'
        exact ⟨0, 0, noS, 1, kindS, fun w => binary_7 2 0 noS k' n' s' 0 0 noS 1 kindS w v1 v2 (small60 a3) (small60 b3) (Lib.hid fun w1 b hb => lazy_kind 7 2 0 noS k' n' s' false b w1 hb (Lib.hid settles70) e), rb_7_k2 noS k' n' s' e⟩
    · exact ⟨2, 1, noS, 0, noS, fun w => binary_7 2 1 noS k' n' s' 2 1 noS 0 noS w v1 v2 (small60 a3) (small60 b3) (Lib.hid fun w1 b hb => lazy_walk 7 2 1 noS k' n' s' true b w1 hb (Lib.hid settles71) rfl), rb_7_v noS k' n' s'⟩
  · have e : (k != 2) = true := by simpa using hk
    exact ⟨0, 0, noS, 1, kindS, fun w => binary_7 k n s k' n' s' 0 0 noS 1 kindS w v1 v2 (small60 a3) (small60 b3) (Lib.hid fun w1 b hb => lazy_kind 7 k n s k' n' s' true b w1 hb (Lib.hid fun w => settles_kind7 k n s w hk) e), rb_7_k k n s k' n' s' e⟩

theorem both_8 : Both 8 k n s k' n' s' := by
  obtain ⟨a0, a1, a2, a3, _, a5, _⟩ := valid_facts v1
  obtain ⟨b0, b1, b2, b3, _, b5, _⟩ := valid_facts v2
  by_cases hk : k = 2
  · subst hk
    obtain ⟨rfl, rfl | rfl⟩ := a5 rfl
    · exact ⟨2, 0, noS, 0, noS, fun w => binary_8 2 0 noS k' n' s' 2 0 noS 0 noS w v1 v2 (small60 a3) (small60 b3) (Lib.hid fun w1 b hb => lazy_walk 8 2 0 noS k' n' s' true b w1 hb (Lib.hid settles80) rfl), rb_8_v noS k' n' s'⟩
    · by_cases hk' : k' = 2
      · subst hk'
        exact ⟨2, n', s', 0, noS, fun w => binary_8 2 1 noS 2 n' s' 2 n' s' 0 noS w v1 v2 (small60 a3) (small60 b3) (Lib.hid fun w1 b hb => lazy_walk 8 2 1 noS 2 n' s' false b w1 hb (Lib.hid settles81) rfl), rb_8_w noS n' s'⟩
      · have e : (k' != 2) = true := by simpa using hk'
        exact ⟨0, 0, noS, 1, kindS, fun w => binary_8 2 1 noS k' n' s' 0 0 noS 1 kindS w v1 v2 (small60 a3) (small60 b3) (Lib.hid fun w1 b hb => lazy_kind 8 2 1 noS k' n' s' false b w1 hb (Lib.hid settles81) e), rb_8_k2 noS k' n' s' e⟩
  · have e : (k != 2) = true := by simpa using hk
    exact ⟨0, 0, noS, 1, kindS, fun w => binary_8 k n s k' n' s' 0 0 noS 1 kindS w v1 v2 (small60 a3) (small60 b3) (Lib.hid fun w1 b hb => lazy_kind 8 k n s k' n' s' true b w1 hb (Lib.hid fun w => settles_kind8 k n s w hk) e), rb_8_k k n s k' n' s' e⟩

theorem both_9 : Both 9 k n s k' n' s' := by
  obtain ⟨a0, a1, a2, a3, _, a5, _⟩ := valid_facts v1
  obtain ⟨b0, b1, b2, b3, _, b5, _⟩ := valid_facts v2
  by_cases hk : k = k'
  · subst hk
    cases hn : (n == n')
    · exact ⟨2, 0, noS, 0, noS, fun w => binary_9 k n s k n' s' 2 0 noS 0 noS w v1 v2 (small60 a3) (small60 b3) (Lib.hid fun w1 b hb => eq_n_true k n n' s s' b w1 hb hn), rb_9_n k n s n' s' a0 hn⟩
    · obtain rfl : n = n' := by simpa using hn
      cases hs : (s.toList == s'.toList)
      · exact ⟨2, 0, noS, 0, noS, fun w => binary_9 k n s k n s' 2 0 noS 0 noS w v1 v2 (small60 a3) (small60 b3) (Lib.hid fun w1 b hb => eq_s_true k n s s' b w1 hb hs), rb_9_s k n s s' a0 hs⟩
      · obtain rfl := toList_inj hs
        exact ⟨2, 1, noS, 0, noS, fun w => binary_9 k n s k n s 2 1 noS 0 noS w v1 v2 (small60 a3) (small60 b3) (Lib.hid fun w1 b hb => eq_e_true k n s b w1 hb), rb_9_e k n s a0⟩
  · exact ⟨0, 0, noS, 1, kindS, fun w => binary_9 k n s k' n' s' 0 0 noS 1 kindS w v1 v2 (small60 a3) (small60 b3) (Lib.hid fun w1 b hb => eq_kind k k' n n' s s' _ w1 hk), rb_kind 9 k n s k' n' s' (by decide) (by decide) a0 (by simp [resI, hk])⟩

theorem both_10 : Both 10 k n s k' n' s' := by
  obtain ⟨a0, a1, a2, a3, _, a5, _⟩ := valid_facts v1
  obtain ⟨b0, b1, b2, b3, _, b5, _⟩ := valid_facts v2
  by_cases hk : k = k'
  · subst hk
    cases hn : (n == n')
    · exact ⟨2, 1, noS, 0, noS, fun w => binary_10 k n s k n' s' 2 1 noS 0 noS w v1 v2 (small60 a3) (small60 b3) (Lib.hid fun w1 b hb => eq_n_false k n n' s s' b w1 hb hn), rb_10_n k n s n' s' a0 hn⟩
    · obtain rfl : n = n' := by simpa using hn
      cases hs : (s.toList == s'.toList)
      · exact ⟨2, 1, noS, 0, noS, fun w => binary_10 k n s k n s' 2 1 noS 0 noS w v1 v2 (small60 a3) (small60 b3) (Lib.hid fun w1 b hb => eq_s_false k n s s' b w1 hb hs), rb_10_s k n s s' a0 hs⟩
      · obtain rfl := toList_inj hs
        exact ⟨2, 0, noS, 0, noS, fun w => binary_10 k n s k n s 2 0 noS 0 noS w v1 v2 (small60 a3) (small60 b3) (Lib.hid fun w1 b hb => eq_e_false k n s b w1 hb), rb_10_e k n s a0⟩
  · exact ⟨0, 0, noS, 1, kindS, fun w => binary_10 k n s k' n' s' 0 0 noS 1 kindS w v1 v2 (small60 a3) (small60 b3) (Lib.hid fun w1 b hb => eq_kind k k' n n' s s' _ w1 hk), rb_kind 10 k n s k' n' s' (by decide) (by decide) a0 (by simp [resI, hk])⟩

theorem both_11 : Both 11 k n s k' n' s' := by
  obtain ⟨a0, a1, a2, a3, a4, a5, a6⟩ := valid_facts v1
  obtain ⟨b0, b1, b2, b3, b4, b5, b6⟩ := valid_facts v2
  by_cases h1 : k = 1 ∧ k' = 1
  · obtain ⟨rfl, rfl⟩ := h1
    obtain rfl := a4 rfl
    obtain rfl := b4 rfl
    rcases cmpI_three n n' with hc | hc | hc
    · exact ⟨2, 1, noS, 0, noS, fun w => binary_11 1 n noS 1 n' noS 2 1 noS 0 noS w v1 v2 (small60 a3) (small60 b3) (Lib.hid fun w1 b hb => by have h := order_int 11 n n' noS noS b w1 (by omega) hb; rw [hc] at h; exact h), rb_11_il n n' hc⟩
    · exact ⟨2, 0, noS, 0, noS, fun w => binary_11 1 n noS 1 n' noS 2 0 noS 0 noS w v1 v2 (small60 a3) (small60 b3) (Lib.hid fun w1 b hb => by have h := order_int 11 n n' noS noS b w1 (by omega) hb; rw [hc] at h; exact h), rb_11_ie n n' hc⟩
    · exact ⟨2, 0, noS, 0, noS, fun w => binary_11 1 n noS 1 n' noS 2 0 noS 0 noS w v1 v2 (small60 a3) (small60 b3) (Lib.hid fun w1 b hb => by have h := order_int 11 n n' noS noS b w1 (by omega) hb; rw [hc] at h; exact h), rb_11_ig n n' hc⟩
  by_cases h3 : k = 3 ∧ k' = 3
  · obtain ⟨rfl, rfl⟩ := h3
    obtain rfl := a6 rfl
    obtain rfl := b6 rfl
    rcases cmpS_three s s' with hc | hc | hc
    · exact ⟨2, 1, noS, 0, noS, fun w => binary_11 3 0 s 3 0 s' 2 1 noS 0 noS w v1 v2 (small60 a3) (small60 b3) (Lib.hid fun w1 b hb => by have h := order_text 11 0 0 s s' b w1 (by omega) hb; rw [hc] at h; exact h), rb_11_tl s s' hc⟩
    · exact ⟨2, 0, noS, 0, noS, fun w => binary_11 3 0 s 3 0 s' 2 0 noS 0 noS w v1 v2 (small60 a3) (small60 b3) (Lib.hid fun w1 b hb => by have h := order_text 11 0 0 s s' b w1 (by omega) hb; rw [hc] at h; exact h), rb_11_te s s' hc⟩
    · exact ⟨2, 0, noS, 0, noS, fun w => binary_11 3 0 s 3 0 s' 2 0 noS 0 noS w v1 v2 (small60 a3) (small60 b3) (Lib.hid fun w1 b hb => by have h := order_text 11 0 0 s s' b w1 (by omega) hb; rw [hc] at h; exact h), rb_11_tg s s' hc⟩
  · refine ⟨0, 0, noS, 1, kindS, fun w => binary_11 k n s k' n' s' 0 0 noS 1 kindS w v1 v2 (small60 a3) (small60 b3) (Lib.hid fun w1 b hb => order_kind k k' n n' s s' _ w1 h1 h3), rb_kind 11 k n s k' n' s' (by decide) (by decide) a0 ?_⟩
    unfold resI
    by_cases e : k = k'
    · subst e
      have e1 : k ≠ 1 := fun h => h1 ⟨h, h⟩
      have e3 : k ≠ 3 := fun h => h3 ⟨h, h⟩
      simp [e1, e3]
    · simp [e]

theorem both_12 : Both 12 k n s k' n' s' := by
  obtain ⟨a0, a1, a2, a3, a4, a5, a6⟩ := valid_facts v1
  obtain ⟨b0, b1, b2, b3, b4, b5, b6⟩ := valid_facts v2
  by_cases h1 : k = 1 ∧ k' = 1
  · obtain ⟨rfl, rfl⟩ := h1
    obtain rfl := a4 rfl
    obtain rfl := b4 rfl
    rcases cmpI_three n n' with hc | hc | hc
    · exact ⟨2, 1, noS, 0, noS, fun w => binary_12 1 n noS 1 n' noS 2 1 noS 0 noS w v1 v2 (small60 a3) (small60 b3) (Lib.hid fun w1 b hb => by have h := order_int 12 n n' noS noS b w1 (by omega) hb; rw [hc] at h; exact h), rb_12_il n n' hc⟩
    · exact ⟨2, 1, noS, 0, noS, fun w => binary_12 1 n noS 1 n' noS 2 1 noS 0 noS w v1 v2 (small60 a3) (small60 b3) (Lib.hid fun w1 b hb => by have h := order_int 12 n n' noS noS b w1 (by omega) hb; rw [hc] at h; exact h), rb_12_ie n n' hc⟩
    · exact ⟨2, 0, noS, 0, noS, fun w => binary_12 1 n noS 1 n' noS 2 0 noS 0 noS w v1 v2 (small60 a3) (small60 b3) (Lib.hid fun w1 b hb => by have h := order_int 12 n n' noS noS b w1 (by omega) hb; rw [hc] at h; exact h), rb_12_ig n n' hc⟩
  by_cases h3 : k = 3 ∧ k' = 3
  · obtain ⟨rfl, rfl⟩ := h3
    obtain rfl := a6 rfl
    obtain rfl := b6 rfl
    rcases cmpS_three s s' with hc | hc | hc
    · exact ⟨2, 1, noS, 0, noS, fun w => binary_12 3 0 s 3 0 s' 2 1 noS 0 noS w v1 v2 (small60 a3) (small60 b3) (Lib.hid fun w1 b hb => by have h := order_text 12 0 0 s s' b w1 (by omega) hb; rw [hc] at h; exact h), rb_12_tl s s' hc⟩
    · exact ⟨2, 1, noS, 0, noS, fun w => binary_12 3 0 s 3 0 s' 2 1 noS 0 noS w v1 v2 (small60 a3) (small60 b3) (Lib.hid fun w1 b hb => by have h := order_text 12 0 0 s s' b w1 (by omega) hb; rw [hc] at h; exact h), rb_12_te s s' hc⟩
    · exact ⟨2, 0, noS, 0, noS, fun w => binary_12 3 0 s 3 0 s' 2 0 noS 0 noS w v1 v2 (small60 a3) (small60 b3) (Lib.hid fun w1 b hb => by have h := order_text 12 0 0 s s' b w1 (by omega) hb; rw [hc] at h; exact h), rb_12_tg s s' hc⟩
  · refine ⟨0, 0, noS, 1, kindS, fun w => binary_12 k n s k' n' s' 0 0 noS 1 kindS w v1 v2 (small60 a3) (small60 b3) (Lib.hid fun w1 b hb => order_kind k k' n n' s s' _ w1 h1 h3), rb_kind 12 k n s k' n' s' (by decide) (by decide) a0 ?_⟩
    unfold resI
    by_cases e : k = k'
    · subst e
      have e1 : k ≠ 1 := fun h => h1 ⟨h, h⟩
      have e3 : k ≠ 3 := fun h => h3 ⟨h, h⟩
      simp [e1, e3]
    · simp [e]

theorem both_13 : Both 13 k n s k' n' s' := by
  obtain ⟨a0, a1, a2, a3, a4, a5, a6⟩ := valid_facts v1
  obtain ⟨b0, b1, b2, b3, b4, b5, b6⟩ := valid_facts v2
  by_cases h1 : k = 1 ∧ k' = 1
  · obtain ⟨rfl, rfl⟩ := h1
    obtain rfl := a4 rfl
    obtain rfl := b4 rfl
    rcases cmpI_three n n' with hc | hc | hc
    · exact ⟨2, 0, noS, 0, noS, fun w => binary_13 1 n noS 1 n' noS 2 0 noS 0 noS w v1 v2 (small60 a3) (small60 b3) (Lib.hid fun w1 b hb => by have h := order_int 13 n n' noS noS b w1 (by omega) hb; rw [hc] at h; exact h), rb_13_il n n' hc⟩
    · exact ⟨2, 0, noS, 0, noS, fun w => binary_13 1 n noS 1 n' noS 2 0 noS 0 noS w v1 v2 (small60 a3) (small60 b3) (Lib.hid fun w1 b hb => by have h := order_int 13 n n' noS noS b w1 (by omega) hb; rw [hc] at h; exact h), rb_13_ie n n' hc⟩
    · exact ⟨2, 1, noS, 0, noS, fun w => binary_13 1 n noS 1 n' noS 2 1 noS 0 noS w v1 v2 (small60 a3) (small60 b3) (Lib.hid fun w1 b hb => by have h := order_int 13 n n' noS noS b w1 (by omega) hb; rw [hc] at h; exact h), rb_13_ig n n' hc⟩
  by_cases h3 : k = 3 ∧ k' = 3
  · obtain ⟨rfl, rfl⟩ := h3
    obtain rfl := a6 rfl
    obtain rfl := b6 rfl
    rcases cmpS_three s s' with hc | hc | hc
    · exact ⟨2, 0, noS, 0, noS, fun w => binary_13 3 0 s 3 0 s' 2 0 noS 0 noS w v1 v2 (small60 a3) (small60 b3) (Lib.hid fun w1 b hb => by have h := order_text 13 0 0 s s' b w1 (by omega) hb; rw [hc] at h; exact h), rb_13_tl s s' hc⟩
    · exact ⟨2, 0, noS, 0, noS, fun w => binary_13 3 0 s 3 0 s' 2 0 noS 0 noS w v1 v2 (small60 a3) (small60 b3) (Lib.hid fun w1 b hb => by have h := order_text 13 0 0 s s' b w1 (by omega) hb; rw [hc] at h; exact h), rb_13_te s s' hc⟩
    · exact ⟨2, 1, noS, 0, noS, fun w => binary_13 3 0 s 3 0 s' 2 1 noS 0 noS w v1 v2 (small60 a3) (small60 b3) (Lib.hid fun w1 b hb => by have h := order_text 13 0 0 s s' b w1 (by omega) hb; rw [hc] at h; exact h), rb_13_tg s s' hc⟩
  · refine ⟨0, 0, noS, 1, kindS, fun w => binary_13 k n s k' n' s' 0 0 noS 1 kindS w v1 v2 (small60 a3) (small60 b3) (Lib.hid fun w1 b hb => order_kind k k' n n' s s' _ w1 h1 h3), rb_kind 13 k n s k' n' s' (by decide) (by decide) a0 ?_⟩
    unfold resI
    by_cases e : k = k'
    · subst e
      have e1 : k ≠ 1 := fun h => h1 ⟨h, h⟩
      have e3 : k ≠ 3 := fun h => h3 ⟨h, h⟩
      simp [e1, e3]
    · simp [e]

theorem both_14 : Both 14 k n s k' n' s' := by
  obtain ⟨a0, a1, a2, a3, a4, a5, a6⟩ := valid_facts v1
  obtain ⟨b0, b1, b2, b3, b4, b5, b6⟩ := valid_facts v2
  by_cases h1 : k = 1 ∧ k' = 1
  · obtain ⟨rfl, rfl⟩ := h1
    obtain rfl := a4 rfl
    obtain rfl := b4 rfl
    rcases cmpI_three n n' with hc | hc | hc
    · exact ⟨2, 0, noS, 0, noS, fun w => binary_14 1 n noS 1 n' noS 2 0 noS 0 noS w v1 v2 (small60 a3) (small60 b3) (Lib.hid fun w1 b hb => by have h := order_int 14 n n' noS noS b w1 (by omega) hb; rw [hc] at h; exact h), rb_14_il n n' hc⟩
    · exact ⟨2, 1, noS, 0, noS, fun w => binary_14 1 n noS 1 n' noS 2 1 noS 0 noS w v1 v2 (small60 a3) (small60 b3) (Lib.hid fun w1 b hb => by have h := order_int 14 n n' noS noS b w1 (by omega) hb; rw [hc] at h; exact h), rb_14_ie n n' hc⟩
    · exact ⟨2, 1, noS, 0, noS, fun w => binary_14 1 n noS 1 n' noS 2 1 noS 0 noS w v1 v2 (small60 a3) (small60 b3) (Lib.hid fun w1 b hb => by have h := order_int 14 n n' noS noS b w1 (by omega) hb; rw [hc] at h; exact h), rb_14_ig n n' hc⟩
  by_cases h3 : k = 3 ∧ k' = 3
  · obtain ⟨rfl, rfl⟩ := h3
    obtain rfl := a6 rfl
    obtain rfl := b6 rfl
    rcases cmpS_three s s' with hc | hc | hc
    · exact ⟨2, 0, noS, 0, noS, fun w => binary_14 3 0 s 3 0 s' 2 0 noS 0 noS w v1 v2 (small60 a3) (small60 b3) (Lib.hid fun w1 b hb => by have h := order_text 14 0 0 s s' b w1 (by omega) hb; rw [hc] at h; exact h), rb_14_tl s s' hc⟩
    · exact ⟨2, 1, noS, 0, noS, fun w => binary_14 3 0 s 3 0 s' 2 1 noS 0 noS w v1 v2 (small60 a3) (small60 b3) (Lib.hid fun w1 b hb => by have h := order_text 14 0 0 s s' b w1 (by omega) hb; rw [hc] at h; exact h), rb_14_te s s' hc⟩
    · exact ⟨2, 1, noS, 0, noS, fun w => binary_14 3 0 s 3 0 s' 2 1 noS 0 noS w v1 v2 (small60 a3) (small60 b3) (Lib.hid fun w1 b hb => by have h := order_text 14 0 0 s s' b w1 (by omega) hb; rw [hc] at h; exact h), rb_14_tg s s' hc⟩
  · refine ⟨0, 0, noS, 1, kindS, fun w => binary_14 k n s k' n' s' 0 0 noS 1 kindS w v1 v2 (small60 a3) (small60 b3) (Lib.hid fun w1 b hb => order_kind k k' n n' s s' _ w1 h1 h3), rb_kind 14 k n s k' n' s' (by decide) (by decide) a0 ?_⟩
    unfold resI
    by_cases e : k = k'
    · subst e
      have e1 : k ≠ 1 := fun h => h1 ⟨h, h⟩
      have e3 : k ≠ 3 := fun h => h3 ⟨h, h⟩
      simp [e1, e3]
    · simp [e]

theorem both_15 : Both 15 k n s k' n' s' := by
  obtain ⟨a0, a1, a2, a3, _, a5, a6⟩ := valid_facts v1
  obtain ⟨b0, b1, b2, b3, _, b5, b6⟩ := valid_facts v2
  by_cases h1 : k = 1 ∧ k' = 1
  · obtain ⟨rfl, rfl⟩ := h1
    by_cases hr : -1000000000000 ≤ n + n' ∧ n + n' ≤ 1000000000000
    · exact ⟨1, n + n', noS, 0, noS, fun w => binary_15 1 n s 1 n' s' 1 (n + n') noS 0 noS w v1 v2 (small60 a3) (small60 b3) (Lib.hid fun w1 => add_sum 1 n s 1 n' s' 1 (n + n') noS 0 noS w1 (by decide) fun b w2 hb => arith_ok116 1 (n + n') noS 0 noS n n' s s' b w2 hb (Lib.hid fun w3 => small_in hr.1 hr.2 ▸ sum_any n n' w3 a1 a2 b1 b2)), rb_15_in n s n' s' a1 a2 b1 b2 hr.1 hr.2⟩
    · have ho : n + n' < -1000000000000 ∨ 1000000000000 < n + n' := by omega
      exact ⟨0, 0, noS, 1, bigS, fun w => binary_15 1 n s 1 n' s' 0 0 noS 1 bigS w v1 v2 (small60 a3) (small60 b3) (Lib.hid fun w1 => add_sum 1 n s 1 n' s' 0 0 noS 1 bigS w1 (by decide) fun b w2 hb => arith_ok116 0 0 noS 1 bigS n n' s s' b w2 hb (Lib.hid fun w3 => small_out ho ▸ sum_any n n' w3 a1 a2 b1 b2)), rb_15_out n s n' s' a1 a2 b1 b2 ho⟩
  by_cases h3 : k = 3 ∧ k' = 3
  · obtain ⟨rfl, rfl⟩ := h3
    obtain rfl := a6 rfl
    obtain rfl := b6 rfl
    by_cases hl : 60 < s.size + s'.size
    · exact ⟨0, 0, noS, 1, longS, fun w => binary_15 3 0 s 3 0 s' 0 0 noS 1 longS w v1 v2 (small60 a3) (small60 b3) (Lib.hid fun w1 => add_long 0 0 s s' w1 a3 b3 hl), rb_15_long s s' a3 b3 hl⟩
    · exact ⟨3, 0, s ++ s', 0, noS, fun w => binary_15 3 0 s 3 0 s' 3 0 (s ++ s') 0 noS w v1 v2 (small60 a3) (small60 b3) (Lib.hid fun w1 => add_text 0 0 s s' w1 a3 b3 hl), rb_15_cat s s' a3 b3 hl⟩
  · refine ⟨0, 0, noS, 1, kindS, fun w => binary_15 k n s k' n' s' 0 0 noS 1 kindS w v1 v2 (small60 a3) (small60 b3) (Lib.hid fun w1 => add_sum k n s k' n' s' 0 0 noS 1 kindS w1 h3 fun b w2 hb => arith_kind k k' n n' s s' _ w2 h1), rb_kind 15 k n s k' n' s' (by decide) (by decide) a0 ?_⟩
    unfold resI
    by_cases e : k = k'
    · subst e
      have e1 : k ≠ 1 := fun h => h1 ⟨h, h⟩
      have e3 : k ≠ 3 := fun h => h3 ⟨h, h⟩
      simp [e1, e3]
    · simp [e]

theorem both_16 : Both 16 k n s k' n' s' := by
  obtain ⟨a0, a1, a2, a3, _, a5, a6⟩ := valid_facts v1
  obtain ⟨b0, b1, b2, b3, _, b5, b6⟩ := valid_facts v2
  by_cases h1 : k = 1 ∧ k' = 1
  · obtain ⟨rfl, rfl⟩ := h1
    by_cases hr : -1000000000000 ≤ n - n' ∧ n - n' ≤ 1000000000000
    · exact ⟨1, n - n', noS, 0, noS, fun w => binary_16 1 n s 1 n' s' 1 (n - n') noS 0 noS w v1 v2 (small60 a3) (small60 b3) (Lib.hid fun w1 b hb => arith_ok87 1 (n - n') noS 0 noS n n' s s' b w1 hb (Lib.hid fun w3 => small_in hr.1 hr.2 ▸ sub_any n n' w3 a1 a2 b1 b2)), rb_16_in n s n' s' a1 a2 b1 b2 hr.1 hr.2⟩
    · have ho : n - n' < -1000000000000 ∨ 1000000000000 < n - n' := by omega
      exact ⟨0, 0, noS, 1, bigS, fun w => binary_16 1 n s 1 n' s' 0 0 noS 1 bigS w v1 v2 (small60 a3) (small60 b3) (Lib.hid fun w1 b hb => arith_ok87 0 0 noS 1 bigS n n' s s' b w1 hb (Lib.hid fun w3 => small_out ho ▸ sub_any n n' w3 a1 a2 b1 b2)), rb_16_out n s n' s' a1 a2 b1 b2 ho⟩
  · exact ⟨0, 0, noS, 1, kindS, fun w => binary_16 k n s k' n' s' 0 0 noS 1 kindS w v1 v2 (small60 a3) (small60 b3) (Lib.hid fun w1 b hb => arith_kind k k' n n' s s' _ w1 h1), rb_kind 16 k n s k' n' s' (by decide) (by decide) a0 (res_arith 16 (by decide) h1)⟩

theorem both_17 : Both 17 k n s k' n' s' := by
  obtain ⟨a0, a1, a2, a3, _, a5, a6⟩ := valid_facts v1
  obtain ⟨b0, b1, b2, b3, _, b5, b6⟩ := valid_facts v2
  by_cases h1 : k = 1 ∧ k' = 1
  · obtain ⟨rfl, rfl⟩ := h1
    by_cases hz : n = 0
    · subst hz
      exact ⟨1, 0, noS, 0, noS, fun w => binary_17 1 0 s 1 n' s' 1 0 noS 0 noS w v1 v2 (small60 a3) (small60 b3) (Lib.hid fun w1 b hb => arith_ok89 1 0 noS 0 noS 0 n' s s' b w1 hb (Lib.hid fun w3 => (show smallV (0 * n') = outV 1 0 noS 0 noS by rw [Int.zero_mul]; exact small_in (by decide) (by decide)) ▸ multiply_any 0 n' w3 a1 a2 b1 b2)), rb_17_zero s n' s' b1 b2⟩
    · by_cases hf : 1000000000000 / absI n < absI n'
      · have ho := mul_not hf hz
        rw [Int.mul_comm] at ho
        exact ⟨0, 0, noS, 1, bigS, fun w => binary_17 1 n s 1 n' s' 0 0 noS 1 bigS w v1 v2 (small60 a3) (small60 b3) (Lib.hid fun w1 b hb => arith_ok89 0 0 noS 1 bigS n n' s s' b w1 hb (Lib.hid fun w3 => small_out ho ▸ multiply_any n n' w3 a1 a2 b1 b2)), rb_17_big n s n' s' a1 a2 b1 b2 hz hf⟩
      · have hr := mul_fits hf hz
        rw [Int.mul_comm] at hr
        exact ⟨1, n * n', noS, 0, noS, fun w => binary_17 1 n s 1 n' s' 1 (n * n') noS 0 noS w v1 v2 (small60 a3) (small60 b3) (Lib.hid fun w1 b hb => arith_ok89 1 (n * n') noS 0 noS n n' s s' b w1 hb (Lib.hid fun w3 => small_in hr.1 hr.2 ▸ multiply_any n n' w3 a1 a2 b1 b2)), rb_17_fit n s n' s' a1 a2 b1 b2 hz hf⟩
  · exact ⟨0, 0, noS, 1, kindS, fun w => binary_17 k n s k' n' s' 0 0 noS 1 kindS w v1 v2 (small60 a3) (small60 b3) (Lib.hid fun w1 b hb => arith_kind k k' n n' s s' _ w1 h1), rb_kind 17 k n s k' n' s' (by decide) (by decide) a0 (res_arith 17 (by decide) h1)⟩

theorem both_18 : Both 18 k n s k' n' s' := by
  obtain ⟨a0, a1, a2, a3, _, a5, a6⟩ := valid_facts v1
  obtain ⟨b0, b1, b2, b3, _, b5, b6⟩ := valid_facts v2
  by_cases h1 : k = 1 ∧ k' = 1
  · obtain ⟨rfl, rfl⟩ := h1
    by_cases hz : n' = 0
    · subst hz
      exact ⟨0, 0, noS, 1, zeroS, fun w => div_zero n s s' w v1 v2 (small60 a3) (small60 b3), rb_18_zero n s s'⟩
    · exact ⟨1, n.tdiv n', noS, 0, noS, fun w => div_ok n n' s s' w v1 v2 (small60 a3) (small60 b3) a1 a2 hz, rb_18_ok n s n' s' a1 a2 b1 b2 hz⟩
  · exact ⟨0, 0, noS, 1, kindS, fun w => binary_18 k n s k' n' s' 0 0 noS 1 kindS w v1 v2 (small60 a3) (small60 b3) (Lib.hid fun w1 b c hb hc => arith_kind k k' n n' s s' _ w1 h1), rb_kind 18 k n s k' n' s' (by decide) (by decide) a0 (res_arith 18 (by decide) h1)⟩
theorem both_19 : Both 19 k n s k' n' s' := by
  obtain ⟨a0, a1, a2, a3, _, a5, a6⟩ := valid_facts v1
  obtain ⟨b0, b1, b2, b3, _, b5, b6⟩ := valid_facts v2
  by_cases h1 : k = 1 ∧ k' = 1
  · obtain ⟨rfl, rfl⟩ := h1
    by_cases hz : n' = 0
    · subst hz
      exact ⟨0, 0, noS, 1, zeroS, fun w => rem_zero n s s' w v1 v2 (small60 a3) (small60 b3), rb_19_zero n s s'⟩
    · exact ⟨1, n.tmod n', noS, 0, noS, fun w => rem_ok n n' s s' w v1 v2 (small60 a3) (small60 b3) a1 a2 hz, rb_19_ok n s n' s' a1 a2 b1 b2 hz⟩
  · exact ⟨0, 0, noS, 1, kindS, fun w => binary_19 k n s k' n' s' 0 0 noS 1 kindS w v1 v2 (small60 a3) (small60 b3) (Lib.hid fun w1 b c hb hc => arith_kind k k' n n' s s' _ w1 h1), rb_kind 19 k n s k' n' s' (by decide) (by decide) a0 (res_arith 19 (by decide) h1)⟩

theorem both_op (op : Int) (h7 : 7 ≤ op) (h19 : op ≤ 19) : Both op k n s k' n' s' := by
  rcases (by omega : op = 7 ∨ op = 8 ∨ op = 9 ∨ op = 10 ∨ op = 11 ∨ op = 12 ∨ op = 13 ∨ op = 14 ∨ op = 15 ∨ op = 16 ∨ op = 17 ∨ op = 18 ∨ op = 19) with rfl | rfl | rfl | rfl | rfl | rfl | rfl | rfl | rfl | rfl | rfl | rfl | rfl
  · exact both_7 v1 v2
  · exact both_8 v1 v2
  · exact both_9 v1 v2
  · exact both_10 v1 v2
  · exact both_11 v1 v2
  · exact both_12 v1 v2
  · exact both_13 v1 v2
  · exact both_14 v1 v2
  · exact both_15 v1 v2
  · exact both_16 v1 v2
  · exact both_17 v1 v2
  · exact both_18 v1 v2
  · exact both_19 v1 v2
end
end Go.Proofs.YtjacdlglbjnoeaaGreatDoor
