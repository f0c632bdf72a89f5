/- The reference: truth values, numbers, products, orders, kinds of results. -/
import Derived.Test.YtjacdlglbjnoeaaGreatDoorOrder
namespace Go.Proofs.YtjacdlglbjnoeaaGreatDoor
open Go.RowKit

/-- A value and a fault. -/
abbrev pairV (k n : Int) (s : ByteArray) (fk : Int) (ft : ByteArray) : Value := .tuple #[valV k n s, .agg #[.int .i64 fk, .string ft]]

theorem rtruth_any (b : Bool) (w : World) : Calls Tryz.prog 51 #[.bool b] w fun e w' => e = .returned (valV 2 (if b then 1 else 0) noS) ∧ Below w.heap.size w w' := by
  cases b <;>
  · go_enter Tryz.func51, Tryz.ntmps51
    go_wp2
    exact bodyPost_ret (v := valV 2 _ noS) (by simp [results, Tryz.results51, go_sem]) rfl ⟨rfl, one _ _⟩

theorem rthrow_any (s : ByteArray) (w : World) : Calls Tryz.prog 41 #[.string s] w fun e w' => e = .returned (.agg #[.int .i64 1, .string s]) ∧ Below w.heap.size w w' := by
  go_enter Tryz.func41, Tryz.ntmps41
  go_wp2
  exact bodyPost_ret (v := .agg #[.int .i64 1, .string s]) (by simp [results, Tryz.results41, go_sem]) rfl ⟨rfl, one _ _⟩

theorem grown2 {w w1 : World} {o1 o2 : Obj} (hb : Below ((w.alloc o1).alloc o2).heap.size ((w.alloc o1).alloc o2) w1) : Below w.heap.size w w1 ∧ w.heap.size < w1.heap.size ∧ w.heap.size + 1 < w1.heap.size := by
  have h1 := hb.size
  have h2 : ((w.alloc o1).alloc o2).heap.size = w.heap.size + 2 := by simp
  refine ⟨?_, by omega, by omega⟩
  have h3 : Below w.heap.size w ((w.alloc o1).alloc o2) := (one w o1).alloc (by simp) _
  exact h3.trans (hb.mono h3.size)

/-- What a value and a fault that the caller has kept read as, after another call. -/
theorem keepR {w w1 : World} {a b c d e : Value} {t u : TypeId} (hb0 : Below ((w.alloc (.cells #[a, b, c] t)).alloc (.cells #[d, e] u)).heap.size ((w.alloc (.cells #[a, b, c] t)).alloc (.cells #[d, e] u)) w1) :
    Below w.heap.size w w1 ∧ w.heap.size < w1.heap.size ∧ w.heap.size + 1 < w1.heap.size ∧ w1.cell? ⟨w.heap.size, 0, none⟩ = some a ∧ w1.cell? ⟨w.heap.size, 1, none⟩ = some b ∧ w1.cell? ⟨w.heap.size, 2, none⟩ = some c ∧
    w1.cell? ⟨w.heap.size + 1, 0, none⟩ = some d ∧ w1.cell? ⟨w.heap.size + 1, 1, none⟩ = some e := by
  have hs : ((w.alloc (.cells #[a, b, c] t)).alloc (.cells #[d, e] u)).heap.size = w.heap.size + 2 := by simp
  have hz := hb0.size
  have h3 : Below w.heap.size w ((w.alloc (.cells #[a, b, c] t)).alloc (.cells #[d, e] u)) := (one w _).alloc (by simp) _
  have k0 : ∀ o, w1.cell? ⟨w.heap.size, o, none⟩ = #[a, b, c][o]? := fun o =>
    ((hb0.cell (p := ⟨w.heap.size, o, none⟩) (by show w.heap.size < _; omega)).trans ((one (w.alloc (.cells #[a, b, c] t)) _).cell (p := ⟨w.heap.size, o, none⟩) (by simp))).trans (World.cell?_alloc_at _ _ _ _ rfl)
  have k1 : ∀ o, w1.cell? ⟨w.heap.size + 1, o, none⟩ = #[d, e][o]? := fun o =>
    (hb0.cell (p := ⟨w.heap.size + 1, o, none⟩) (by show w.heap.size + 1 < _; omega)).trans (World.cell?_alloc_at _ _ _ _ (by simp))
  exact ⟨h3.trans (hb0.mono h3.size), by omega, by omega, k0 0, k0 1, k0 2, k1 0, k1 1⟩

theorem rnumber_in (n : Int) (w : World) (h1 : -1000000000000 ≤ n) (h2 : n ≤ 1000000000000) : Calls Tryz.prog 52 #[.int .i64 n] w fun e w' => e = .returned (pairV 1 n noS 0 noS) ∧ Below w.heap.size w w' := by
  go_enter Tryz.func52, Tryz.ntmps52
  go_wp2
  exact bodyPost_ret (v := pairV 1 n noS 0 noS) (by simp [results, Tryz.results52, go_sem]) rfl ⟨rfl, (one _ _).alloc (by simp) _⟩

set_option maxRecDepth 100000 in
theorem rnumber_out (n : Int) (w : World) (h : n < -1000000000000 ∨ 1000000000000 < n) : Calls Tryz.prog 52 #[.int .i64 n] w fun e w' => e = .returned (pairV 0 0 noS 1 bigS) ∧ Below w.heap.size w w' := by
  rcases h with h | h
  all_goals
    go_enter Tryz.func52, Tryz.ntmps52
    go_wp2_with fail
    refine (rthrow_any _ _).mono ?_
    rintro e w1 ⟨rfl, hb⟩
    obtain ⟨hg1, z0, z1, a0, a1, a2, a3, a4⟩ := keepR hb
    obtain ⟨hc, hf⟩ := bcell hb
    go_wp2
    exact bodyPost_ret (v := pairV 0 0 noS 1 bigS) (by simp [results, Tryz.results52, go_sem, a0, a1, a2, a3, a4]) rfl ⟨rfl, by (repeat (first | with_reducible exact hg1 | with_reducible refine Below.setCell ?_ (by first | (simp; done) | (simp; omega)) _))⟩

theorem absN {n : Int} (h : n < 0) : absI n = -n := if_pos h
theorem absP {n : Int} (h : ¬ n < 0) : absI n = n := if_neg h

theorem rtimes_zero (y : Int) (w : World) (h3 : -1000000000000 ≤ y) (h4 : y ≤ 1000000000000) : Calls Tryz.prog 55 #[.int .i64 0, .int .i64 y] w fun e w' => e = .returned (.int .i64 0) ∧ w = w' := by
  by_cases hy0 : y < 0
  all_goals
    go_enter Tryz.func55, Tryz.ntmps55
    go_wp2
    all_goals (go_ret; exact ⟨ret_int (by simp), rfl⟩)
theorem rtimes_fit (x y : Int) (w : World) (h1 : -1000000000000 ≤ x) (h2 : x ≤ 1000000000000) (h3 : -1000000000000 ≤ y) (h4 : y ≤ 1000000000000) (hx : x ≠ 0) (h : ¬ 1000000000000 / absI x < absI y) :
    Calls Tryz.prog 55 #[.int .i64 x, .int .i64 y] w fun e w' => e = .returned (.int .i64 (x * y)) ∧ w = w' := by
  have hm := mul_fits h hx
  rw [Int.mul_comm] at hm
  obtain ⟨hm1, hm2⟩ := hm
  by_cases hx0 : x < 0
  · rw [absN hx0] at h
    obtain ⟨z, rfl⟩ : ∃ z, x = -z := ⟨-x, by omega⟩
    rw [Int.neg_neg] at h
    have z1 : 0 < z := by omega
    have z2 : z ≤ 1000000000000 := by omega
    have z3 : z ≠ 0 := by omega
    have hm3 : -1000000000000 ≤ -(z * y) := by rw [← Int.neg_mul]; exact hm1
    have hm4 : -(z * y) ≤ 1000000000000 := by rw [← Int.neg_mul]; exact hm2
    clear hx h1 h2 hx0
    by_cases hy0 : y < 0
    all_goals
      first | rw [absN hy0] at h | rw [absP hy0] at h
      go_enter Tryz.func55, Tryz.ntmps55
      go_wp2
      all_goals (go_ret; exact ⟨ret_int (by first | rfl | simp), rfl⟩)
  · rw [absP hx0] at h
    by_cases hy0 : y < 0
    all_goals
      first | rw [absN hy0] at h | rw [absP hy0] at h
      go_enter Tryz.func55, Tryz.ntmps55
      go_wp2
      all_goals (go_ret; exact ⟨ret_int (by first | rfl | simp), rfl⟩)
theorem rtimes_big (x y : Int) (w : World) (h1 : -1000000000000 ≤ x) (h2 : x ≤ 1000000000000) (h3 : -1000000000000 ≤ y) (h4 : y ≤ 1000000000000) (hx : x ≠ 0) (h : 1000000000000 / absI x < absI y) :
    Calls Tryz.prog 55 #[.int .i64 x, .int .i64 y] w fun e w' => e = .returned (.int .i64 1000000000001) ∧ w = w' := by
  by_cases hx0 : x < 0
  · rw [absN hx0] at h
    obtain ⟨z, rfl⟩ : ∃ z, x = -z := ⟨-x, by omega⟩
    rw [Int.neg_neg] at h
    have z1 : 0 < z := by omega
    have z2 : z ≤ 1000000000000 := by omega
    have z3 : z ≠ 0 := by omega
    clear hx h1 h2 hx0
    by_cases hy0 : y < 0
    all_goals
      first | rw [absN hy0] at h | rw [absP hy0] at h
      go_enter Tryz.func55, Tryz.ntmps55
      go_wp2
      all_goals (go_ret; exact ⟨rfl, rfl⟩)
  · rw [absP hx0] at h
    by_cases hy0 : y < 0
    all_goals
      first | rw [absN hy0] at h | rw [absP hy0] at h
      go_enter Tryz.func55, Tryz.ntmps55
      go_wp2
      all_goals (go_ret; exact ⟨rfl, rfl⟩)

/-- The kind of a result: -1 if there is none. -/
def resI (op a b : Int) : Int :=
  if a ≠ b then -1 else if op = 9 ∨ op = 10 then 2 else if 11 ≤ op ∧ op ≤ 14 then (if a = 1 ∨ a = 3 then 2 else -1) else if op = 15 then (if a = 1 ∨ a = 3 then a else -1) else (if a = 1 then 1 else -1)

set_option maxHeartbeats 1000000 in
theorem rresult_any (op a b : Int) (w : World) (ho : 9 ≤ op) (ho2 : op ≤ 19) (ha : 0 ≤ a) : Calls Tryz.prog 53 #[.int .i64 op, .int .i64 a, .int .i64 b] w fun e w' => e = .returned (.int .i64 (resI op a b)) ∧ w = w' := by
  by_cases hab : a = b
  · subst hab
    by_cases h1 : a = 1
    · subst h1
      rcases (by omega : op = 9 ∨ op = 10 ∨ op = 11 ∨ op = 12 ∨ op = 13 ∨ op = 14 ∨ op = 15 ∨ op = 16 ∨ op = 17 ∨ op = 18 ∨ op = 19) with rfl | rfl | rfl | rfl | rfl | rfl | rfl | rfl | rfl | rfl | rfl
      all_goals
        go_enter Tryz.func53, Tryz.ntmps53
        go_wp2
        go_ret
        exact ⟨rfl, rfl⟩
    by_cases h3 : a = 3
    · subst h3
      rcases (by omega : op = 9 ∨ op = 10 ∨ op = 11 ∨ op = 12 ∨ op = 13 ∨ op = 14 ∨ op = 15 ∨ op = 16 ∨ op = 17 ∨ op = 18 ∨ op = 19) with rfl | rfl | rfl | rfl | rfl | rfl | rfl | rfl | rfl | rfl | rfl
      all_goals
        go_enter Tryz.func53, Tryz.ntmps53
        go_wp2
        go_ret
        exact ⟨rfl, rfl⟩
    have e1 : (a == 1) = false := by simpa using h1
    have e3 : (a == 3) = false := by simpa using h3
    have em : (a == -1) = false := by simp; omega
    rcases (by omega : op = 9 ∨ op = 10 ∨ op = 11 ∨ op = 12 ∨ op = 13 ∨ op = 14 ∨ op = 15 ∨ op = 16 ∨ op = 17 ∨ op = 18 ∨ op = 19) with rfl | rfl | rfl | rfl | rfl | rfl | rfl | rfl | rfl | rfl | rfl
    all_goals
      go_enter Tryz.func53, Tryz.ntmps53
      go_wp2
      go_ret
      exact ⟨ret_int (by simp [resI, h1, h3]), rfl⟩
  · have e : (a != b) = true := by simpa using hab
    rw [show resI op a b = -1 from by simp [resI, hab]]
    go_enter Tryz.func53, Tryz.ntmps53
    go_wp2
    go_ret
    exact ⟨rfl, rfl⟩
end Go.Proofs.YtjacdlglbjnoeaaGreatDoor
