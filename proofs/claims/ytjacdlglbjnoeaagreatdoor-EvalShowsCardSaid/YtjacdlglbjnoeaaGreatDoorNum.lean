/- Arithmetic: size, small, multiply and the closures that divide and subtract, on numbers of the language. -/
import Derived.Test.YtjacdlglbjnoeaaGreatDoorLeaf
namespace Go.Proofs.YtjacdlglbjnoeaaGreatDoor
open Go.RowKit

abbrev bigS : ByteArray := ⟨#[98, 105, 103]⟩
abbrev zeroS : ByteArray := ⟨#[122, 101, 114, 111]⟩
abbrev kindS : ByteArray := ⟨#[107, 105, 110, 100]⟩
abbrev longS : ByteArray := ⟨#[108, 111, 110, 103]⟩

/-- The outcome of a number that can be out of range. -/
def smallV (n : Int) : Value := if -1000000000000 ≤ n ∧ n ≤ 1000000000000 then outV 1 n noS 0 noS else outV 0 0 noS 1 bigS
theorem small_in {n : Int} (h1 : -1000000000000 ≤ n) (h2 : n ≤ 1000000000000) : smallV n = outV 1 n noS 0 noS := if_pos ⟨h1, h2⟩
theorem small_out {n : Int} (h : n < -1000000000000 ∨ 1000000000000 < n) : smallV n = outV 0 0 noS 1 bigS := if_neg (by omega)

def absI (n : Int) : Int := if n < 0 then -n else n
theorem absI_le (n : Int) : n ≤ absI n ∧ -n ≤ absI n ∧ 0 ≤ absI n ∧ (absI n = n ∨ absI n = -n) := by unfold absI; split <;> omega

theorem ret_int {k : IntKind} {a b : Int} (h : a = b) : Ending.returned (.int k a) = .returned (.int k b) := by rw [h]

theorem size_any (n : Int) (w : World) (h1 : -4000000000000 ≤ n) (h2 : n ≤ 4000000000000) : Calls Tryz.prog 118 #[.int .i64 n] w fun e w' => e = .returned (.int .i64 (absI n)) ∧ w = w' := by
  by_cases h : n < 0
  · go_enter Tryz.func118, Tryz.ntmps118
    go_wp2
    go_ret
    exact ⟨ret_int (by unfold absI; split <;> omega), rfl⟩
  · go_enter Tryz.func118, Tryz.ntmps118
    go_wp2
    go_ret
    exact ⟨ret_int (by unfold absI; split <;> omega), rfl⟩

theorem small_any (n : Int) (w : World) (h1 : -4000000000000 ≤ n) (h2 : n ≤ 4000000000000) : Calls Tryz.prog 88 #[.int .i64 n] w fun e w' => e = .returned (smallV n) ∧ Below w.heap.size w w' := by
  have ha := absI_le n
  by_cases h : absI n ≤ 1000000000000
  · rw [small_in (by omega) (by omega)]
    clear ha
    go_enter Tryz.func88, Tryz.ntmps88
    go_wp2_with (first | (go_at_call 118; refine (size_any _ _ h1 h2).mono ?_; rintro e w' ⟨rfl, rfl⟩) | (go_at_call 81; refine (number_any _ _).mono ?_; rintro e w1 ⟨rfl, hb⟩; obtain ⟨hc, hf⟩ := bcell hb))
    obtain ⟨hg, hz⟩ := grown hb
    exact bodyPost_ret (v := outV 1 n noS 0 noS) (by simp [results, Tryz.results88, go_sem, hc]) rfl ⟨rfl, by (repeat (first | with_reducible exact hg | with_reducible refine Below.setCell ?_ (by first | (simp; done) | (simp; omega)) _))⟩
  · rw [small_out (by omega)]
    clear ha
    go_enter Tryz.func88, Tryz.ntmps88
    go_wp2_with (first | (go_at_call 118; refine (size_any _ _ h1 h2).mono ?_; rintro e w' ⟨rfl, rfl⟩) | (go_at_call 78; refine (fault_any _ _).mono ?_; rintro e w1 ⟨rfl, hb⟩; obtain ⟨hc, hf⟩ := bcell hb))
    obtain ⟨hg, hz⟩ := grown hb
    exact bodyPost_ret (v := outV 0 0 noS 1 bigS) (by simp [results, Tryz.results88, go_sem, hc]) rfl ⟨rfl, by (repeat (first | with_reducible exact hg | with_reducible refine Below.setCell ?_ (by first | (simp; done) | (simp; omega)) _))⟩

theorem mul_fits {x y : Int} (h : ¬ 1000000000000 / absI y < absI x) (hy : y ≠ 0) : -1000000000000 ≤ x * y ∧ x * y ≤ 1000000000000 := by
  have ha := absI_le y
  have hp : 0 < absI y := by omega
  have h1 : absI x * absI y ≤ 1000000000000 := (Int.le_ediv_iff_mul_le hp).1 (by omega)
  have hx := absI_le x
  rcases hx.2.2.2 with e | e <;> rcases ha.2.2.2 with f | f <;> rw [e, f] at h1
  · constructor
    · have : 0 ≤ x * y := Int.mul_nonneg (by omega) (by omega)
      omega
    · omega
  · have : x * -y = -(x * y) := by rw [Int.mul_neg]
    have h2 : 0 ≤ x * -y := Int.mul_nonneg (by omega) (by omega)
    omega
  · have : -x * y = -(x * y) := by rw [Int.neg_mul]
    have h2 : 0 ≤ -x * y := Int.mul_nonneg (by omega) (by omega)
    omega
  · have : -x * -y = x * y := by rw [Int.neg_mul_neg]
    have h2 : 0 ≤ -x * -y := Int.mul_nonneg (by omega) (by omega)
    omega
theorem mul_not {x y : Int} (h : 1000000000000 / absI y < absI x) (hy : y ≠ 0) : x * y < -1000000000000 ∨ 1000000000000 < x * y := by
  have ha := absI_le y
  have hp : 0 < absI y := by omega
  have h1 : 1000000000000 < absI x * absI y := by
    have := Int.le_ediv_iff_mul_le hp (a := absI x) (b := 1000000000000)
    omega
  have hx := absI_le x
  rcases hx.2.2.2 with e | e <;> rcases ha.2.2.2 with f | f <;> rw [e, f] at h1
  · omega
  · have : x * -y = -(x * y) := by rw [Int.mul_neg]
    omega
  · have : -x * y = -(x * y) := by rw [Int.neg_mul]
    omega
  · have : -x * -y = x * y := by rw [Int.neg_mul_neg]
    omega

theorem multiply_any (x y : Int) (w : World) (h1 : -1000000000000 ≤ x) (h2 : x ≤ 1000000000000) (h3 : -1000000000000 ≤ y) (h4 : y ≤ 1000000000000) : Calls Tryz.prog 89 #[.int .i64 x, .int .i64 y] w fun e w' => e = .returned (smallV (x * y)) ∧ Below w.heap.size w w' := by
  by_cases hy : y = 0
  · subst hy
    rw [Int.mul_zero, small_in (by omega) (by omega)]
    go_enter Tryz.func89, Tryz.ntmps89
    go_wp2_with (first | (go_at_call 81; refine (number_any _ _).mono ?_; rintro e w1 ⟨rfl, hb⟩; obtain ⟨hc, hf⟩ := bcell hb))
    obtain ⟨hg, hz⟩ := grown hb
    exact bodyPost_ret (v := outV 1 0 noS 0 noS) (by simp [results, Tryz.results89, go_sem, hc]) rfl ⟨rfl, by (repeat (first | with_reducible exact hg | with_reducible refine Below.setCell ?_ (by first | (simp; done) | (simp; omega)) _))⟩
  · by_cases h : 1000000000000 / absI y < absI x
    · rw [small_out (mul_not h hy)]
      have ha := absI_le y
      have hb1 : 0 ≤ absI y := ha.2.2.1
      have hb2 : absI y ≤ 1000000000000 := by omega
      have hb3 : absI y ≠ 0 := by omega
      clear ha
      go_enter Tryz.func89, Tryz.ntmps89
      go_wp2_with (first | (go_at_call 118; refine (size_any _ _ (by omega) (by omega)).mono ?_; rintro e w' ⟨rfl, rfl⟩) | (go_at_call 78; refine (fault_any _ _).mono ?_; rintro e w1 ⟨rfl, hb⟩; obtain ⟨hc, hf⟩ := bcell hb))
      obtain ⟨hg, hz⟩ := grown hb
      exact bodyPost_ret (v := outV 0 0 noS 1 bigS) (by simp [results, Tryz.results89, go_sem, hc]) rfl ⟨rfl, by (repeat (first | with_reducible exact hg | with_reducible refine Below.setCell ?_ (by first | (simp; done) | (simp; omega)) _))⟩
    · have hm := mul_fits h hy
      rw [small_in hm.1 hm.2]
      obtain ⟨hm1, hm2⟩ := hm
      have ha := absI_le y
      have hb1 : 0 ≤ absI y := ha.2.2.1
      have hb2 : absI y ≤ 1000000000000 := by omega
      have hb3 : absI y ≠ 0 := by omega
      clear ha
      go_enter Tryz.func89, Tryz.ntmps89
      go_wp2_with (first | (go_at_call 118; refine (size_any _ _ (by omega) (by omega)).mono ?_; rintro e w' ⟨rfl, rfl⟩) | (go_at_call 81; refine (number_any _ _).mono ?_; rintro e w1 ⟨rfl, hb⟩; obtain ⟨hc, hf⟩ := bcell hb))
      obtain ⟨hg, hz⟩ := grown hb
      exact bodyPost_ret (v := outV 1 (x * y) noS 0 noS) (by simp [results, Tryz.results89, go_sem, hc]) rfl ⟨rfl, by (repeat (first | with_reducible exact hg | with_reducible refine Below.setCell ?_ (by first | (simp; done) | (simp; omega)) _))⟩

theorem tdiv_bd (x y : Int) (h1 : -1000000000000 ≤ x) (h2 : x ≤ 1000000000000) : -1000000000000 ≤ x.tdiv y ∧ x.tdiv y ≤ 1000000000000 := by
  have h := Int.natAbs_tdiv x y
  have h3 : x.natAbs.div y.natAbs ≤ x.natAbs := Nat.div_le_self _ _
  rw [← h] at h3
  omega
theorem tmod_bd (x y : Int) (h1 : -1000000000000 ≤ x) (h2 : x ≤ 1000000000000) : -1000000000000 ≤ x.tmod y ∧ x.tmod y ≤ 1000000000000 := by
  have h := Int.natAbs_tmod x y
  have h3 : x.natAbs % y.natAbs ≤ x.natAbs := Nat.mod_le _ _
  rw [← h] at h3
  omega
theorem div_any (x y : Int) (w : World) (h1 : -1000000000000 ≤ x) (h2 : x ≤ 1000000000000) (hy : y ≠ 0) : Calls Tryz.prog 91 #[.int .i64 x, .int .i64 y] w fun e w' => e = .returned (.int .i64 (x.tdiv y)) ∧ w = w' := by
  have H := Lib.hid (tdiv_bd x y h1 h2)
  go_enter Tryz.func91, Tryz.ntmps91
  go_wp2
  go_ret
  exact ⟨ret_int (IntWalk.wrap64_in _ (by have := H.out; omega)), rfl⟩
theorem rem_any (x y : Int) (w : World) (h1 : -1000000000000 ≤ x) (h2 : x ≤ 1000000000000) (hy : y ≠ 0) : Calls Tryz.prog 92 #[.int .i64 x, .int .i64 y] w fun e w' => e = .returned (.int .i64 (x.tmod y)) ∧ w = w' := by
  have H := Lib.hid (tmod_bd x y h1 h2)
  go_enter Tryz.func92, Tryz.ntmps92
  go_wp2
  go_ret
  exact ⟨rfl, rfl⟩
theorem sub_any (x y : Int) (w : World) (h1 : -1000000000000 ≤ x) (h2 : x ≤ 1000000000000) (h3 : -1000000000000 ≤ y) (h4 : y ≤ 1000000000000) : Calls Tryz.prog 87 #[.int .i64 x, .int .i64 y] w fun e w' => e = .returned (smallV (x - y)) ∧ Below w.heap.size w w' := by
  by_cases h : -1000000000000 ≤ x - y ∧ x - y ≤ 1000000000000
  · have hs := small_in h.1 h.2
    clear h
    go_enter Tryz.func87, Tryz.ntmps87
    go_wp2_with (first | (go_at_call 88; refine (small_any _ _ (by omega) (by omega)).mono ?_; rintro e w1 ⟨rfl, hb⟩; rw [hs]; obtain ⟨hc, hf⟩ := bcell hb))
    obtain ⟨hg, hz⟩ := grown hb
    exact bodyPost_ret (v := outV 1 (x - y) noS 0 noS) (by simp [results, Tryz.results87, go_sem, hc]) rfl ⟨by rw [hs], by (repeat (first | with_reducible exact hg | with_reducible refine Below.setCell ?_ (by first | (simp; done) | (simp; omega)) _))⟩
  · have hs := small_out (n := x - y) (by omega)
    clear h
    go_enter Tryz.func87, Tryz.ntmps87
    go_wp2_with (first | (go_at_call 88; refine (small_any _ _ (by omega) (by omega)).mono ?_; rintro e w1 ⟨rfl, hb⟩; rw [hs]; obtain ⟨hc, hf⟩ := bcell hb))
    obtain ⟨hg, hz⟩ := grown hb
    exact bodyPost_ret (v := outV 0 0 noS 1 bigS) (by simp [results, Tryz.results87, go_sem, hc]) rfl ⟨by rw [hs], by (repeat (first | with_reducible exact hg | with_reducible refine Below.setCell ?_ (by first | (simp; done) | (simp; omega)) _))⟩
theorem sum_any (x y : Int) (w : World) (h1 : -1000000000000 ≤ x) (h2 : x ≤ 1000000000000) (h3 : -1000000000000 ≤ y) (h4 : y ≤ 1000000000000) : Calls Tryz.prog 116 #[.int .i64 x, .int .i64 y] w fun e w' => e = .returned (smallV (x + y)) ∧ Below w.heap.size w w' := by
  by_cases h : -1000000000000 ≤ x + y ∧ x + y ≤ 1000000000000
  · have hs := small_in h.1 h.2
    clear h
    go_enter Tryz.func116, Tryz.ntmps116
    go_wp2_with (first | (go_at_call 88; refine (small_any _ _ (by omega) (by omega)).mono ?_; rintro e w1 ⟨rfl, hb⟩; rw [hs]; obtain ⟨hc, hf⟩ := bcell hb))
    obtain ⟨hg, hz⟩ := grown hb
    exact bodyPost_ret (v := outV 1 (x + y) noS 0 noS) (by simp [results, Tryz.results116, go_sem, hc]) rfl ⟨by rw [hs], by (repeat (first | with_reducible exact hg | with_reducible refine Below.setCell ?_ (by first | (simp; done) | (simp; omega)) _))⟩
  · have hs := small_out (n := x + y) (by omega)
    clear h
    go_enter Tryz.func116, Tryz.ntmps116
    go_wp2_with (first | (go_at_call 88; refine (small_any _ _ (by omega) (by omega)).mono ?_; rintro e w1 ⟨rfl, hb⟩; rw [hs]; obtain ⟨hc, hf⟩ := bcell hb))
    obtain ⟨hg, hz⟩ := grown hb
    exact bodyPost_ret (v := outV 0 0 noS 1 bigS) (by simp [results, Tryz.results116, go_sem, hc]) rfl ⟨by rw [hs], by (repeat (first | with_reducible exact hg | with_reducible refine Below.setCell ?_ (by first | (simp; done) | (simp; omega)) _))⟩

/-- What divides or takes the rest: the outcome for two numbers. -/
def divV (q : Int → Int → Int) (x y : Int) : Value := if y = 0 then outV 0 0 noS 1 zeroS else outV 1 (q x y) noS 0 noS

theorem divided_zero (x : Int) (g b : Nat) (w : World) (_hc0 : w.cell? ⟨b, 0, none⟩ = some (.func (.func g) #[] #[])) :
    Calls Tryz.prog 119 #[.int .i64 x, .int .i64 0, .pointer (some ⟨b, 0, none⟩)] w fun e w' => e = .returned (outV 0 0 noS 1 zeroS) ∧ Below w.heap.size w w' := by
  go_enter Tryz.func119, Tryz.ntmps119
  go_wp2_with (first | (go_at_call 78; refine (fault_any _ _).mono ?_; rintro e w1 ⟨rfl, hb⟩; obtain ⟨hc, hf⟩ := bcell hb))
  obtain ⟨hg, hz⟩ := grown hb
  exact bodyPost_ret (v := outV 0 0 noS 1 zeroS) (by simp [results, Tryz.results119, go_sem, hc]) rfl ⟨rfl, by (repeat (first | with_reducible exact hg | with_reducible refine Below.setCell ?_ (by first | (simp; done) | (simp; omega)) _))⟩

theorem divided_div (x y : Int) (b : Nat) (w : World) (h1 : -1000000000000 ≤ x) (h2 : x ≤ 1000000000000) (hy : y ≠ 0) (hc0 : w.cell? ⟨b, 0, none⟩ = some (.func (.func 91) #[] #[])) :
    Calls Tryz.prog 119 #[.int .i64 x, .int .i64 y, .pointer (some ⟨b, 0, none⟩)] w fun e w' => e = .returned (outV 1 (x.tdiv y) noS 0 noS) ∧ Below w.heap.size w w' := by
  have hlt := World.block_lt_of_cell? _ _ hc0
  go_enter Tryz.func119, Tryz.ntmps119
  go_wp2_with (first | (go_at_call 91; refine (div_any _ _ _ h1 h2 hy).mono ?_; rintro e w' ⟨rfl, rfl⟩) | (go_at_call 81; refine (number_any _ _).mono ?_; rintro e w1 ⟨rfl, hb⟩; obtain ⟨hc, hf⟩ := bcell hb))
  obtain ⟨hg, hz⟩ := grown hb
  exact bodyPost_ret (v := outV 1 (x.tdiv y) noS 0 noS) (by simp [results, Tryz.results119, go_sem, hc]) rfl ⟨rfl, by (repeat (first | with_reducible exact hg | with_reducible refine Below.setCell ?_ (by first | (simp; done) | (simp; omega)) _))⟩
theorem divided_rem (x y : Int) (b : Nat) (w : World) (h1 : -1000000000000 ≤ x) (h2 : x ≤ 1000000000000) (hy : y ≠ 0) (hc0 : w.cell? ⟨b, 0, none⟩ = some (.func (.func 92) #[] #[])) :
    Calls Tryz.prog 119 #[.int .i64 x, .int .i64 y, .pointer (some ⟨b, 0, none⟩)] w fun e w' => e = .returned (outV 1 (x.tmod y) noS 0 noS) ∧ Below w.heap.size w w' := by
  have hlt := World.block_lt_of_cell? _ _ hc0
  go_enter Tryz.func119, Tryz.ntmps119
  go_wp2_with (first | (go_at_call 92; refine (rem_any _ _ _ h1 h2 hy).mono ?_; rintro e w' ⟨rfl, rfl⟩) | (go_at_call 81; refine (number_any _ _).mono ?_; rintro e w1 ⟨rfl, hb⟩; obtain ⟨hc, hf⟩ := bcell hb))
  obtain ⟨hg, hz⟩ := grown hb
  exact bodyPost_ret (v := outV 1 (x.tmod y) noS 0 noS) (by simp [results, Tryz.results119, go_sem, hc]) rfl ⟨rfl, by (repeat (first | with_reducible exact hg | with_reducible refine Below.setCell ?_ (by first | (simp; done) | (simp; omega)) _))⟩
end Go.Proofs.YtjacdlglbjnoeaaGreatDoor
