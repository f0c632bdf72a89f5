/- How many shields a task has open. -/
import Derived.Test.YtcegmdlmnibheaaInner
namespace Go.Proofs.Ytcegmdlmnibheaa
set_option linter.unusedVariables false
set_option linter.unusedSimpArgs false
open Go.RowKit

section
variable {w : World} {own : Own} {tb : Nat} {L : Lay} {t : Tr.T}
theorem ret_int {k : IntKind} {a b : Int} (h : a = b) : Ending.returned (.int k a) = .returned (.int k b) := by rw [h]
def shN (l : List (Option Nat)) (k : Nat) : Nat := (l.take k).countP (· == none)
theorem shN_le (l : List (Option Nat)) (k : Nat) : shN l k ≤ k := by
  have h1 := List.countP_le_length (p := (· == none)) (l := l.take k)
  have h2 := List.length_take_le k l
  unfold shN; omega
theorem shN_succ {l : List (Option Nat)} {k : Nat} {s : Option Nat} (h : l[k]? = some s) : shN l (k + 1) = shN l k + if s = none then 1 else 0 := by
  unfold shN
  have hk := (List.getElem?_eq_some_iff.1 h)
  rw [List.take_succ_eq_append_getElem hk.1, List.countP_append, hk.2]
  cases s <;> simp
set_option maxRecDepth 100000 in
set_option maxHeartbeats 1000000 in
theorem shields_any (h : Rep w own tb L t) {i : Nat} {x : Tr.Tk} (hx : t.ts[i]? = some x) :
    Calls Try.prog 70 #[tkP L i] w (same w (.int .i64 (Tr.shields x))) := by
  obtain ⟨p, cap, e, h1, h2, h3⟩ := (h.tk i x hx).form
  have c := (h.tk i x hx).blk.cell 5 _ rfl
  rw [e] at c
  have HS : Hid ((Tr.shields x : Nat) = shN x.op x.op.length) := Lib.hid (by simp [Tr.shields, shN])
  unfold maxLen at h2
  unfold tkP same
  obtain ⟨l, hl⟩ : ∃ l, l = x.op.length := ⟨_, rfl⟩
  rw [← hl] at c h1 h3 HS
  have HL := Lib.hid hl
  have H3 := Lib.hid h3
  clear h hx e h3 hl
  go_enter Try.func70, Try.ntmps70
  go_wp2_with fail
  go_loop [3, 11] (fun n i => ∃ k : Nat, k ≤ l ∧ i = .int .i64 k ∧ n = .int .i64 (shN x.op k : Nat)) (fun _ i => l - (intOf i).toNat)
  case atStart => exact ⟨0, Nat.zero_le _, rfl, rfl⟩
  case round =>
    obtain ⟨k, hk, rfl, rfl⟩ := hrel
    have hsl := shN_le x.op k
    by_cases hlt : k < l
    · obtain ⟨s, hs⟩ : ∃ s, x.op[k]? = some s := ⟨_, List.getElem?_eq_getElem (by have := HL.out; omega)⟩
      obtain ⟨g, rfl, hg, hc⟩ := H3.out (by omega)
      have ck := hc k s hs
      have HN := Lib.hid (shN_succ hs)
      clear hc hs
      cases s with
      | none =>
        have HN2 := Lib.hid (show shN x.op (k + 1) = shN x.op k + 1 by rw [HN.out]; rfl)
        unfold scP at ck
        go_wp2
        go_round
        case rel => exact ⟨k + 1, by omega, by go_num, by rw [HN2.out]; go_num⟩
        case measure => simp [intOf]; omega
      | some j =>
        have HN2 := Lib.hid (show shN x.op (k + 1) = shN x.op k by rw [HN.out]; rfl)
        unfold scP at ck
        go_wp2
        go_round
        case rel => exact ⟨k + 1, by omega, by go_num, by rw [HN2.out]⟩
        case measure => simp [intOf]; omega
    · obtain rfl : k = l := by omega
      go_wp2
      go_ret
      exact ⟨ret_int (by rw [HS.out]), rfl⟩
end
end Go.Proofs.Ytcegmdlmnibheaa
