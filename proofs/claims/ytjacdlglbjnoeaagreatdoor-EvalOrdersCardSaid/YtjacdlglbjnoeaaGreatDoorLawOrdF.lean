/- EvalOrders returns true for all inputs. -/
import Derived.Test.YtjacdlglbjnoeaaGreatDoorLawOrd3
import Derived.Test.YtjacdlglbjnoeaaGreatDoorBinCmp
import Derived.Test.YtjacdlglbjnoeaaGreatDoorEq
namespace Go.Proofs.YtjacdlglbjnoeaaGreatDoor
open Go.RowKit

theorem less_turn : ∀ (x y : List UInt8), Op.bytesLess y x = (!Op.bytesLess x y && !(x == y))
  | [], [] => rfl
  | [], b :: y => by simp [Op.bytesLess]
  | a :: x, [] => by simp [Op.bytesLess]
  | a :: x, b :: y => by
    have ih := less_turn x y
    by_cases h1 : a < b
    · have h2 : ¬ b < a := fun h => absurd (UInt8.lt_trans h1 h) (UInt8.lt_irrefl _)
      have h3 : ¬ b = a := fun h => by subst h; exact UInt8.lt_irrefl _ h1
      simp [Op.bytesLess, h1, h2, h3]
    · by_cases h2 : b < a
      · have h3 : ¬ a = b := fun h => by subst h; exact UInt8.lt_irrefl _ h2
        simp [Op.bytesLess, h1, h2, h3]
      · have h3 : a = b := UInt8.le_antisymm (UInt8.not_lt.1 h2) (UInt8.not_lt.1 h1)
        subst h3
        simp [Op.bytesLess, h1, ih]

section
variable {k n : Int} {s : ByteArray} {n' : Int} {s' : ByteArray} (h1 : validB k n s = true) (h2 : validB k n' s' = true) (hs : s.size ≤ 9223372036854775807) (hs' : s'.size ≤ 9223372036854775807)
include h1 h2 hs hs'
theorem cmp_eq : CmpPost k n s n' s' 9 (sameB k n s k n' s') := fun w =>
  binary_9 k n s k n' s' 2 _ noS 0 noS w h1 h2 hs hs' (Lib.hid fun w1 b hb => eq_true k n n' s s' b w1 hb)
theorem cmp_ne : CmpPost k n s n' s' 10 (!sameB k n s k n' s') := fun w =>
  binary_10 k n s k n' s' 2 _ noS 0 noS w h1 h2 hs hs' (Lib.hid fun w1 b hb => eq_false k n n' s s' b w1 hb)
end
section
variable {n : Int} {s : ByteArray} {n' : Int} {s' : ByteArray} (h1 : validB 1 n s = true) (h2 : validB 1 n' s' = true) (hs : s.size ≤ 9223372036854775807) (hs' : s'.size ≤ 9223372036854775807)
include h1 h2 hs hs'
theorem cmpI_11 : CmpPost 1 n s n' s' 11 (ordB 11 (cmpI n n')) := fun w =>
  binary_11 1 n s 1 n' s' 2 _ noS 0 noS w h1 h2 hs hs' (Lib.hid fun w1 b hb => order_int 11 n n' s s' b w1 (by omega) hb)
theorem cmpI_12 : CmpPost 1 n s n' s' 12 (ordB 12 (cmpI n n')) := fun w =>
  binary_12 1 n s 1 n' s' 2 _ noS 0 noS w h1 h2 hs hs' (Lib.hid fun w1 b hb => order_int 12 n n' s s' b w1 (by omega) hb)
theorem cmpI_13 : CmpPost 1 n s n' s' 13 (ordB 13 (cmpI n n')) := fun w =>
  binary_13 1 n s 1 n' s' 2 _ noS 0 noS w h1 h2 hs hs' (Lib.hid fun w1 b hb => order_int 13 n n' s s' b w1 (by omega) hb)
theorem cmpI_14 : CmpPost 1 n s n' s' 14 (ordB 14 (cmpI n n')) := fun w =>
  binary_14 1 n s 1 n' s' 2 _ noS 0 noS w h1 h2 hs hs' (Lib.hid fun w1 b hb => order_int 14 n n' s s' b w1 (by omega) hb)
end
section
variable {n : Int} {s : ByteArray} {n' : Int} {s' : ByteArray} (h1 : validB 3 n s = true) (h2 : validB 3 n' s' = true) (hs : s.size ≤ 9223372036854775807) (hs' : s'.size ≤ 9223372036854775807)
include h1 h2 hs hs'
theorem cmpS_11 : CmpPost 3 n s n' s' 11 (ordB 11 (cmpS s s')) := fun w =>
  binary_11 3 n s 3 n' s' 2 _ noS 0 noS w h1 h2 hs hs' (Lib.hid fun w1 b hb => order_text 11 n n' s s' b w1 (by omega) hb)
theorem cmpS_12 : CmpPost 3 n s n' s' 12 (ordB 12 (cmpS s s')) := fun w =>
  binary_12 3 n s 3 n' s' 2 _ noS 0 noS w h1 h2 hs hs' (Lib.hid fun w1 b hb => order_text 12 n n' s s' b w1 (by omega) hb)
theorem cmpS_13 : CmpPost 3 n s n' s' 13 (ordB 13 (cmpS s s')) := fun w =>
  binary_13 3 n s 3 n' s' 2 _ noS 0 noS w h1 h2 hs hs' (Lib.hid fun w1 b hb => order_text 13 n n' s s' b w1 (by omega) hb)
theorem cmpS_14 : CmpPost 3 n s n' s' 14 (ordB 14 (cmpS s s')) := fun w =>
  binary_14 3 n s 3 n' s' 2 _ noS 0 noS w h1 h2 hs hs' (Lib.hid fun w1 b hb => order_text 14 n n' s s' b w1 (by omega) hb)
end

theorem law_orders_c (k n : Int) (s : ByteArray) (k' n' : Int) (s' : ByteArray) (w : World) (_ : (Lit.int .i64 k).wf = true) (_ : (Lit.int .i64 n).wf = true) (hs : s.size ≤ maxLen) (_ : (Lit.int .i64 k').wf = true) (_ : (Lit.int .i64 n').wf = true) (hs' : s'.size ≤ maxLen) (hh : Hand w) :
    Calls Tryz.prog 13 #[valV k n s, valV k' n' s'] w fun e w' => e = .returned (.bool true) ∧ Below w.heap.size w w' := by
  unfold maxLen at hs hs'
  cases hq : skipB k n s k' n' s'
  · unfold skipB at hq
    simp only [Bool.not_eq_false', Bool.and_eq_true, Bool.or_eq_true, beq_iff_eq] at hq
    obtain ⟨⟨⟨h1, h2⟩, rfl⟩, hk⟩ := hq
    have A : ∀ w, Calls Tryz.prog 23 #[valV k n s] w (BPost true w) := fun w => h1 ▸ kvalid_any k n s w hs
    have B : ∀ w, Calls Tryz.prog 23 #[valV k n' s'] w (BPost true w) := fun w => h2 ▸ kvalid_any k n' s' w hs'
    rcases hk with rfl | rfl
    · have e1 : (s.toList == []) = true := by have := h1; simp [validB] at this; simpa using this.1
      have e2 : (s'.toList == []) = true := by have := h2; simp [validB] at this; simpa using this.1
      have es : (s.toList == s'.toList) = true := by
        have a := e1
        have b := e2
        simp only [beq_iff_eq] at a b ⊢
        rw [a, b]
      have hx : sameB 1 n s 1 n' s' = (n == n') := by simp [sameB, es]
      refine orders_ok1 n s n' s' w hh A B (fun | 0 => ordB 11 (cmpI n n') | 1 => (n == n') | 2 => ordB 13 (cmpI n n') | 3 => ordB 14 (cmpI n n') | 4 => !(n == n') | _ => ordB 12 (cmpI n n')) ?_ ?_ ?_ ?_ ?_ ?_
      · intro j hj
        match j, hj with
        | 0, _ => exact cmpI_11 h1 h2 hs hs'
        | 1, _ => exact hx ▸ cmp_eq h1 h2 hs hs'
        | 2, _ => exact cmpI_13 h1 h2 hs hs'
        | 3, _ => exact cmpI_14 h1 h2 hs hs'
        | 4, _ => exact hx ▸ cmp_ne h1 h2 hs hs'
        | 5, _ => exact cmpI_12 h1 h2 hs hs'
      · have e : ordB 13 (cmpI n' n) = ordB 11 (cmpI n n') := by
          unfold cmpI ordB
          by_cases h : n < n' <;> by_cases g : n' < n <;> simp [h, g] <;> omega
        exact e ▸ cmpI_13 h2 h1 hs' hs
      · show (ordB 11 (cmpI n n') && !(n == n') && !ordB 13 (cmpI n n') || !ordB 11 (cmpI n n') && (n == n') && !ordB 13 (cmpI n n') || !ordB 11 (cmpI n n') && !(n == n') && ordB 13 (cmpI n n')) = true
        unfold cmpI ordB
        by_cases h : n < n' <;> by_cases g : n' < n <;> by_cases e : n = n' <;> simp [h, g, e] <;> omega
      · show ordB 14 (cmpI n n') = !ordB 11 (cmpI n n')
        unfold cmpI ordB
        by_cases h : n < n' <;> by_cases g : n' < n <;> simp [h, g]
      · rfl
      · show ordB 12 (cmpI n n') = !ordB 13 (cmpI n n')
        unfold cmpI ordB
        by_cases h : n < n' <;> by_cases g : n' < n <;> simp [h, g] <;> omega
    · have e1 : n = 0 := by have := h1; simp [validB] at this; exact this.1
      have e2 : n' = 0 := by have := h2; simp [validB] at this; exact this.1
      subst e1
      subst e2
      have hx : sameB 3 0 s 3 0 s' = (s.toList == s'.toList) := by simp [sameB]
      have ht := less_turn s.toList s'.toList
      have hc : (s'.toList == s.toList) = (s.toList == s'.toList) := Bool.beq_comm
      refine orders_ok3 0 s 0 s' w hh A B (fun | 0 => ordB 11 (cmpS s s') | 1 => (s.toList == s'.toList) | 2 => ordB 13 (cmpS s s') | 3 => ordB 14 (cmpS s s') | 4 => !(s.toList == s'.toList) | _ => ordB 12 (cmpS s s')) ?_ ?_ ?_ ?_ ?_ ?_
      · intro j hj
        match j, hj with
        | 0, _ => exact cmpS_11 h1 h2 hs hs'
        | 1, _ => exact hx ▸ cmp_eq h1 h2 hs hs'
        | 2, _ => exact cmpS_13 h1 h2 hs hs'
        | 3, _ => exact cmpS_14 h1 h2 hs hs'
        | 4, _ => exact hx ▸ cmp_ne h1 h2 hs hs'
        | 5, _ => exact cmpS_12 h1 h2 hs hs'
      · have e : ordB 13 (cmpS s' s) = ordB 11 (cmpS s s') := by
          unfold cmpS ordB
          rw [ht, hc]
          have hd : Op.bytesLess s.toList s'.toList = true → (s.toList == s'.toList) = false := fun h => by
            cases he : (s.toList == s'.toList)
            · rfl
            · have hE := toList_inj he
              subst hE
              rw [h] at ht
              simp at ht
          cases hl : Op.bytesLess s.toList s'.toList <;> cases he : (s.toList == s'.toList) <;> simp_all
        exact e ▸ cmpS_13 h2 h1 hs' hs
      · have hd : Op.bytesLess s.toList s'.toList = true → (s.toList == s'.toList) = false := fun h => by
          cases he : (s.toList == s'.toList)
          · rfl
          · have hE := toList_inj he
            subst hE
            rw [h] at ht
            simp at ht
        show (ordB 11 (cmpS s s') && !(s.toList == s'.toList) && !ordB 13 (cmpS s s') || !ordB 11 (cmpS s s') && (s.toList == s'.toList) && !ordB 13 (cmpS s s') || !ordB 11 (cmpS s s') && !(s.toList == s'.toList) && ordB 13 (cmpS s s')) = true
        unfold cmpS ordB
        clear ht hx hc A B h1 h2
        cases hl : Op.bytesLess s.toList s'.toList <;> cases he : (s.toList == s'.toList) <;> simp_all
      · show ordB 14 (cmpS s s') = !ordB 11 (cmpS s s')
        unfold cmpS ordB
        cases hl : Op.bytesLess s.toList s'.toList <;> cases he : (s.toList == s'.toList) <;> simp
      · rfl
      · show ordB 12 (cmpS s s') = !ordB 13 (cmpS s s')
        unfold cmpS ordB
        cases hl : Op.bytesLess s.toList s'.toList <;> cases he : (s.toList == s'.toList) <;> simp
  · exact orders_skip k n s k' n' s' w hs hs' hh hq
end Go.Proofs.YtjacdlglbjnoeaaGreatDoor
