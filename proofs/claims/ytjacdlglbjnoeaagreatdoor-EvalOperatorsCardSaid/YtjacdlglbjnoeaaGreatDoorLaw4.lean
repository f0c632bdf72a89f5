/- EvalOperators returns true for all inputs. -/
import Derived.Test.YtjacdlglbjnoeaaGreatDoorLaw4a
namespace Go.Proofs.YtjacdlglbjnoeaaGreatDoor
open Go.RowKit

theorem both_un {k n : Int} {s : ByteArray} (v1 : validB k n s = true) (op : Int) (h : op = 5 ∨ op = 6) : BothU op k n s := by
  obtain ⟨a0, a1, a2, a3, a4, a5, a6⟩ := valid_facts v1
  rcases h with rfl | rfl
  · by_cases hk : k = 2
    · subst hk
      obtain ⟨rfl, rfl | rfl⟩ := a5 rfl
      · exact ⟨2, 1, noS, 0, noS, un_5 2 0 noS 2 1 noS 0 noS v1 (small60 a3) (Lib.hid not_0), ru_5_0 noS⟩
      · exact ⟨2, 0, noS, 0, noS, un_5 2 1 noS 2 0 noS 0 noS v1 (small60 a3) (Lib.hid not_1), ru_5_1 noS⟩
    · exact ⟨0, 0, noS, 1, kindS, un_5 k n s 0 0 noS 1 kindS v1 (small60 a3) (Lib.hid fun w => not_kind k n s w (by simpa using hk)), ru_5_kind k n s (by simpa using hk)⟩
  · by_cases hk : k = 1
    · subst hk
      exact ⟨1, -n, noS, 0, noS, un_6 1 n s 1 (-n) noS 0 noS v1 (small60 a3) (Lib.hid fun w => neg_ok n s w a1 a2), ru_6_ok n s a1 a2⟩
    · exact ⟨0, 0, noS, 1, kindS, un_6 k n s 0 0 noS 1 kindS v1 (small60 a3) (Lib.hid fun w => neg_kind k n s w (by simpa using hk)), ru_6_kind k n s (by simpa using hk)⟩

theorem isU_of (op : Int) (r : Bool) (h : (op == 5 || op == 6) = r) : IsU op r := fun w => h ▸ isU_any op w
theorem isB_of (op : Int) (r : Bool) (h : (decide (7 ≤ op) && decide (op ≤ 19)) = r) : IsB op r := fun w => h ▸ isB_any op w

theorem law_operators_c (op k n : Int) (s : ByteArray) (k' n' : Int) (s' : ByteArray) (w : World) (wo : (Lit.int .i64 op).wf = true) (_ : (Lit.int .i64 k).wf = true) (_ : (Lit.int .i64 n).wf = true) (hs : s.size ≤ maxLen) (_ : (Lit.int .i64 k').wf = true) (_ : (Lit.int .i64 n').wf = true) (hs' : s'.size ≤ maxLen) (hh : Hand w) :
    Calls Tryz.prog 4 #[.int .i64 op, valV k n s, valV k' n' s'] w fun e w' => e = .returned (.bool true) ∧ Below w.heap.size w w' := by
  unfold maxLen at hs hs'
  have KV : KVal k n s (validB k n s) := fun w => kvalid_any k n s w hs
  have KW : KVal k' n' s' (validB k' n' s') := fun w => kvalid_any k' n' s' w hs'
  have H := Lib.hid hh
  cases v1 : validB k n s
  · rw [v1] at KV
    have HU := un_bad op k n s wo v1 hs
    have HP : ProgB op k n s k' n' s' 0 0 noS 0 noS 2 := fun w => binary_left op k n s k' n' s' w wo v1 hs
    by_cases h5 : op = 5 ∨ op = 6
    · have e1 : (op == 5 || op == 6) = true := by simpa using h5
      have e2 : (decide (7 ≤ op) && decide (op ≤ 19)) = false := by
        have : ¬ 7 ≤ op := by omega
        simp [this]
      exact law4_ubad op k n s k' n' s' w H (Lib.hid HU) (Lib.hid HP) (Lib.hid (isU_of op true e1)) (Lib.hid (isB_of op false e2)) (Lib.hid KV)
    · have e1 : (op == 5 || op == 6) = false := by
        have a : ¬ op = 5 := fun e => h5 (.inl e)
        have b : ¬ op = 6 := fun e => h5 (.inr e)
        simp [a, b]
      cases e2 : (decide (7 ≤ op) && decide (op ≤ 19))
      · exact law4_none op k n s k' n' s' w H (Lib.hid HU) (Lib.hid HP) (Lib.hid (isU_of op false e1)) (Lib.hid (isB_of op false e2))
      · exact law4_left op k n s k' n' s' w H (Lib.hid HU) (Lib.hid HP) (Lib.hid (isU_of op false e1)) (Lib.hid (isB_of op true e2)) (Lib.hid KV)
  · rw [v1] at KV
    by_cases h5 : op = 5 ∨ op = 6
    · have e1 : (op == 5 || op == 6) = true := by simpa using h5
      have e2 : (decide (7 ≤ op) && decide (op ≤ 19)) = false := by
        have : ¬ 7 ≤ op := by omega
        simp [this]
      have HP : ProgB op k n s k' n' s' 0 0 noS 0 noS 2 := fun w => binary_none op k n s k' n' s' w wo (by omega)
      obtain ⟨uk, un, us, ufk, uft, HU, HR⟩ := both_un v1 op h5
      exact law4_uok op k n s k' n' s' uk un us ufk uft w H (Lib.hid HU) (Lib.hid HP) (Lib.hid (isU_of op true e1)) (Lib.hid (isB_of op false e2)) (Lib.hid KV) (Lib.hid HR)
    · have e1 : (op == 5 || op == 6) = false := by
        have a : ¬ op = 5 := fun e => h5 (.inl e)
        have b : ¬ op = 6 := fun e => h5 (.inr e)
        simp [a, b]
      have HU := un_none op k n s wo ⟨fun e => h5 (.inl e), fun e => h5 (.inr e)⟩
      by_cases h7 : 7 ≤ op ∧ op ≤ 19
      · have e2 : (decide (7 ≤ op) && decide (op ≤ 19)) = true := by simp [h7.1, h7.2]
        cases v2 : validB k' n' s'
        · rw [v2] at KW
          have HP : ProgB op k n s k' n' s' 0 0 noS 0 noS 2 := fun w => binary_right op k n s k' n' s' w wo v1 v2 hs hs'
          exact law4_right op k n s k' n' s' w H (Lib.hid HU) (Lib.hid HP) (Lib.hid (isU_of op false e1)) (Lib.hid (isB_of op true e2)) (Lib.hid KV) (Lib.hid KW)
        · rw [v2] at KW
          obtain ⟨bk, bn, bs, bfk, bft, HP, HQ⟩ := both_op v1 v2 op h7.1 h7.2
          exact law4_bok op k n s k' n' s' bk bn bs bfk bft w H (Lib.hid HU) (Lib.hid HP) (Lib.hid (isU_of op false e1)) (Lib.hid (isB_of op true e2)) (Lib.hid KV) (Lib.hid KW) (Lib.hid HQ)
      · have e2 : (decide (7 ≤ op) && decide (op ≤ 19)) = false := by
          by_cases a : 7 ≤ op
          · have b : ¬ op ≤ 19 := fun b => h7 ⟨a, b⟩
            simp [a, b]
          · simp [a]
        have HP : ProgB op k n s k' n' s' 0 0 noS 0 noS 2 := fun w => binary_none op k n s k' n' s' w wo (by omega)
        exact law4_none op k n s k' n' s' w H (Lib.hid HU) (Lib.hid HP) (Lib.hid (isU_of op false e1)) (Lib.hid (isB_of op false e2))
end Go.Proofs.YtjacdlglbjnoeaaGreatDoor
