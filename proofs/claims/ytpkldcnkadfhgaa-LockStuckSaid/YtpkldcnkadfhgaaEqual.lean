/- slices.Equal over two lists of numbers that are the same. -/
import Derived.Test.YtpkldcnkadfhgaaFrame
namespace Go.Proofs.Ytpkldcnkadfhgaa
open Go.RowKit

def intOf : Value → Int
  | .int _ x => x
  | _ => 0
set_option maxRecDepth 100000 in
set_option maxHeartbeats 4000000 in
theorem equal_any (b1 b2 o1 o2 : Nat) (v1 v2 : Value) (n : Nat) (p1 p2 : Option Addr) (c1 c2 : Nat) (w : World) (Z : Nat → Int) (e1 : v1 = .slice p1 n c1) (e2 : v2 = .slice p2 n c2) (hl : n ≤ 100000000) (hc1 : n ≤ c1) (hc2 : n ≤ c2) (hm1 : c1 ≤ maxLen) (hm2 : c2 ≤ maxLen)
    (h1 : 0 < n → p1 = some ⟨b1, o1, none⟩ ∧ b1 < w.heap.size ∧ ∀ j, j < n → w.cell? ⟨b1, o1 + j, none⟩ = some (.int .i64 (Z j)))
    (h2 : 0 < n → p2 = some ⟨b2, o2, none⟩ ∧ b2 < w.heap.size ∧ ∀ j, j < n → w.cell? ⟨b2, o2 + j, none⟩ = some (.int .i64 (Z j))) :
    Calls Try.prog 25 #[v1, v2] w (still w (.bool true)) := by
  unfold still
  subst e1 e2
  have H1 := Lib.hid h1
  have H2 := Lib.hid h2
  unfold maxLen at hm1 hm2
  clear h1 h2
  go_enter Try.func25, Try.ntmps25
  go_wp2
  go_loopw [13] (fun vi wt => ∃ i : Nat, i ≤ n ∧ vi = .int .i64 i ∧ Below w.heap.size w wt) (fun vi _ => n - (intOf vi).toNat)
  case atStart => exact ⟨0, Nat.zero_le _, rfl, Below.refl _ _⟩
  case round =>
    obtain ⟨i, hi, rfl, hB⟩ := hrel
    have HB := Lib.hid hB
    by_cases hlt : i < n
    · obtain ⟨rfl, hg1, k1⟩ := H1.out (by omega)
      obtain ⟨rfl, hg2, k2⟩ := H2.out (by omega)
      have q0 := (hB.cell (p := ⟨b1, o1 + i, none⟩) hg1).trans (k1 i hlt)
      have q1 := (hB.cell (p := ⟨b2, o2 + i, none⟩) hg2).trans (k2 i hlt)
      have hzs := hB.size
      have hg1' : b1 < wr.heap.size := by omega
      have hg2' : b2 < wr.heap.size := by omega
      have ii0 : (0 : Int) ≤ (i : Int) := by omega
      have ii1 : (i : Int) < (n : Int) := by omega
      clear hB k1 k2
      go_wp2
      go_quiet (fail)
      go_wp2
      go_roundw
      case rel => exact ⟨i + 1, by omega, by go_num, below_drewN HB.out _⟩
      case measure => simp [intOf]; omega
    · obtain rfl : i = n := by omega
      clear hB
      go_wp2
      go_ret
      exact ⟨rfl, HB.out⟩

/-- Two lists in memory, the second one cut to the length of the first. -/
theorem equal_lines (v1 v2 : Value) (p2 : Option Addr) (c2 m : Nat) (A B : List Int) (w : World) (h1 : Line w v1 A) (h2 : Line w v2 B) (e2 : v2 = .slice p2 m c2) (hAB : A = B.take A.length) (hl : A.length ≤ 1000000) :
    Calls Try.prog 25 #[v1, .slice p2 A.length c2] w (still w (.bool true)) := by
  have hle : A.length ≤ B.length := by have := congrArg List.length hAB; simp at this; omega
  obtain ⟨q1, d1, f1, a1, a2, a3⟩ := h1.form
  obtain ⟨q2, d2, f2, b1, b2, b3⟩ := h2.form
  rw [e2] at f2
  cases f2
  subst f1
  refine equal_any ((q1.map (·.block)).getD 0) ((p2.map (·.block)).getD 0) ((q1.map (·.off)).getD 0) ((p2.map (·.off)).getD 0) _ _ A.length q1 p2 d1 c2 w (fun j => A[j]?.getD 0) rfl rfl (by omega) a1 (by omega) a2 b2 (fun h0 => ?_) (fun h0 => ?_)
  · obtain ⟨g, off, rfl, hg⟩ := a3 h0
    refine ⟨rfl, hg, fun j hj => h1.cell ?_⟩
    rw [List.getElem?_eq_getElem hj]; rfl
  · obtain ⟨g, off, rfl, hg⟩ := b3 (by omega)
    subst e2
    refine ⟨rfl, hg, fun j hj => h2.cell ?_⟩
    have h3 : (B.take A.length)[j]? = A[j]? := by rw [← hAB]
    rw [List.getElem?_take, if_pos hj] at h3
    rw [h3, List.getElem?_eq_getElem hj]; rfl
end Go.Proofs.Ytpkldcnkadfhgaa
