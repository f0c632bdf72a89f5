/- EvalDivided returns true for all inputs. -/
import Derived.Test.YtjacdlglbjnoeaaGreatDoorAwake
import Derived.Test.YtjacdlglbjnoeaaGreatDoorBinBad
import Derived.Test.YtjacdlglbjnoeaaGreatDoorKValid
namespace Go.Proofs.YtjacdlglbjnoeaaGreatDoor
open Go.RowKit

theorem keepVV {w w1 : World} {a b c d e f : Value} {t u : TypeId} (hb0 : Below ((w.alloc (.cells #[a, b, c] t)).alloc (.cells #[d, e, f] u)).heap.size ((w.alloc (.cells #[a, b, c] t)).alloc (.cells #[d, e, f] u)) w1) :
    Below w.heap.size w w1 ∧ w.heap.size < w1.heap.size ∧ w.heap.size + 1 < w1.heap.size ∧ w1.cell? ⟨w.heap.size, 0, none⟩ = some a ∧ w1.cell? ⟨w.heap.size, 1, none⟩ = some b ∧ w1.cell? ⟨w.heap.size, 2, none⟩ = some c ∧
    w1.cell? ⟨w.heap.size + 1, 0, none⟩ = some d ∧ w1.cell? ⟨w.heap.size + 1, 1, none⟩ = some e ∧ w1.cell? ⟨w.heap.size + 1, 2, none⟩ = some f := by
  have hs : ((w.alloc (.cells #[a, b, c] t)).alloc (.cells #[d, e, f] u)).heap.size = w.heap.size + 2 := by simp
  have hz := hb0.size
  have h3 : Below w.heap.size w ((w.alloc (.cells #[a, b, c] t)).alloc (.cells #[d, e, f] u)) := (one w _).alloc (by simp) _
  have k0 : ∀ o, w1.cell? ⟨w.heap.size, o, none⟩ = #[a, b, c][o]? := fun o =>
    ((hb0.cell (p := ⟨w.heap.size, o, none⟩) (by show w.heap.size < _; omega)).trans ((one (w.alloc (.cells #[a, b, c] t)) _).cell (p := ⟨w.heap.size, o, none⟩) (by simp))).trans (World.cell?_alloc_at _ _ _ _ rfl)
  have k1 : ∀ o, w1.cell? ⟨w.heap.size + 1, o, none⟩ = #[d, e, f][o]? := fun o =>
    (hb0.cell (p := ⟨w.heap.size + 1, o, none⟩) (by show w.heap.size + 1 < _; omega)).trans (World.cell?_alloc_at _ _ _ _ (by simp))
  exact ⟨h3.trans (hb0.mono h3.size), by omega, by omega, k0 0, k0 1, k0 2, k1 0, k1 1, k1 2⟩

theorem val1_iff (n : Int) : validB 1 n noS = decide (-1000000000000 ≤ n ∧ n ≤ 1000000000000) := by
  have : (noS.toList == []) = true := by decide +kernel
  simp [validB, this]

/-- What Binary returns of two numbers, at an operator. -/
def DivPost (op a b : Int) (R : Value) : Prop := ∀ w, Calls Tryz.prog 21 #[.int .i64 op, valV 1 a noS, valV 1 b noS] w fun e w' => e = .returned R ∧ Below w.heap.size w w'
theorem div_bad (op a b : Int) (hop : (Lit.int .i64 op).wf = true) (h : ¬ (validB 1 a noS = true ∧ validB 1 b noS = true)) : DivPost op a b (binR 0 0 noS 0 noS 2) := by
  intro w
  cases h1 : validB 1 a noS
  · exact binary_left op 1 a noS 1 b noS w hop h1 (by decide)
  · cases h2 : validB 1 b noS
    · exact binary_right op 1 a noS 1 b noS w hop h1 h2 (by decide) (by decide)
    · exact absurd ⟨h1, h2⟩ h

set_option maxRecDepth 100000 in
set_option maxHeartbeats 4000000 in
theorem law_divided_bad (a b : Int) (w : World) (hh : Hand w) (h : ¬ (validB 1 a noS = true ∧ validB 1 b noS = true)) :
    Calls Tryz.prog 12 #[.int .i64 a, .int .i64 b] w fun e w' => e = .returned (.bool true) ∧ Below w.heap.size w w' := by
  have D1 := Lib.hid (div_bad 18 a b (by decide) h)
  have D2 := Lib.hid (div_bad 19 a b (by decide) h)
  have K1 := fun w => kvalid_any 1 a noS w (by decide)
  have K2 := fun w => kvalid_any 1 b noS w (by decide)
  have hor : ∃ r1 r2, validB 1 a noS = r1 ∧ validB 1 b noS = r2 ∧ ¬ (r1 = true ∧ r2 = true) := ⟨_, _, rfl, rfl, h⟩
  obtain ⟨r1, r2, e1, e2, hr⟩ := hor
  rw [e1] at K1
  rw [e2] at K2
  have KK1 := Lib.hid K1
  have KK2 := Lib.hid K2
  have HH := Lib.hid hh
  clear K1 K2 h e1 e2 hh
  go_enter Tryz.func12, Tryz.ntmps12
  go_wp2_with fail
  refine (D1.out _).mono ?_
  rintro e w1 ⟨rfl, hb1⟩
  obtain ⟨g1, p0, p1, a0, a1, a2, a3, a4, a5⟩ := keepVV hb1
  have H1 := Lib.hid g1
  clear hb1 g1 D1
  go_wp2_with fail
  refine (D2.out _).mono ?_
  rintro e w2 ⟨rfl, hb2⟩
  obtain ⟨g2, q0, q1, b0, b1, b2, b3, b4⟩ := keepV hb2
  replace a0 := cell_of g2 a0
  replace a1 := cell_of g2 a1
  replace a2 := cell_of g2 a2
  replace a3 := cell_of g2 a3
  replace a4 := cell_of g2 a4
  replace a5 := cell_of g2 a5
  have z0 : w.heap.size < w2.heap.size := by omega
  have z1 : w.heap.size + 1 < w2.heap.size := by omega
  have H2 := Lib.hid (then2 H1.out g2)
  clear hb2 g2 D2 p0 p1 q0 q1 H1 b0 b1 b2 b3 b4
  go_wp2_with fail
  refine (KK1.out _).mono ?_
  rintro e w3 ⟨rfl, hb3⟩
  obtain ⟨g3, y0, y1, b0, b1, b2, b3, b4⟩ := keepV hb3
  replace a0 := cell_of g3 a0
  replace a1 := cell_of g3 a1
  replace a2 := cell_of g3 a2
  replace a3 := cell_of g3 a3
  replace a4 := cell_of g3 a4
  replace a5 := cell_of g3 a5
  have H3 := Lib.hid (then2 H2.out g3)
  replace z0 : w.heap.size < w3.heap.size := by omega
  replace z1 : w.heap.size + 1 < w3.heap.size := by omega
  clear hb3 g3 KK1 H2 b0 b1 b2 b3 b4 y0 y1
  cases r1
  · clear hr KK2
    go_wp2_with fail
    refine (awake_any _ (HH.out.below H3.out)).mono ?_
    rintro e w4 ⟨rfl, hb4⟩
    go_wp2
    go_ret
    exact ⟨rfl, then2 H3.out hb4⟩
  · obtain rfl : r2 = false := by cases r2; rfl; exact absurd ⟨rfl, rfl⟩ hr
    clear hr
    go_wp2_with fail
    refine (KK2.out _).mono ?_
    rintro e w4 ⟨rfl, hb4⟩
    have H4 := Lib.hid (then2 H3.out hb4)
    clear hb4 H3
    go_wp2_with fail
    refine (awake_any _ (HH.out.below H4.out)).mono ?_
    rintro e w5 ⟨rfl, hb5⟩
    go_wp2
    go_ret
    exact ⟨rfl, then2 H4.out hb5⟩

abbrev throwV (s : ByteArray) : Value := .agg #[.int .i64 1, .string s]
theorem throw_any (s : ByteArray) (w : World) : Calls Tryz.prog 41 #[.string s] w fun e w' => e = .returned (throwV s) ∧ Below w.heap.size w w' := by
  go_enter Tryz.func41, Tryz.ntmps41
  go_wp2
  exact bodyPost_ret (v := throwV s) (by simp [results, Tryz.results41, go_sem]) rfl ⟨rfl, one _ _⟩

set_option maxRecDepth 100000 in
set_option maxHeartbeats 4000000 in
theorem law_divided_ok (a b : Int) (w : World) (hh : Hand w) (h1 : validB 1 a noS = true) (h2 : validB 1 b noS = true) (hb0 : b ≠ 0) (ha1 : -1000000000000 ≤ a) (ha2 : a ≤ 1000000000000) (hc1 : -1000000000000 ≤ b) (hc2 : b ≤ 1000000000000) :
    Calls Tryz.prog 12 #[.int .i64 a, .int .i64 b] w fun e w' => e = .returned (.bool true) ∧ Below w.heap.size w w' := by
  have D1 := Lib.hid (show DivPost 18 a b (binR 1 (a.tdiv b) noS 0 noS 0) from fun w => div_ok a b noS noS w h1 h2 (by decide) (by decide) ha1 ha2 hb0)
  have D2 := Lib.hid (show DivPost 19 a b (binR 1 (a.tmod b) noS 0 noS 0) from fun w => rem_ok a b noS noS w h1 h2 (by decide) (by decide) ha1 ha2 hb0)
  have K1 := fun w => kvalid_any 1 a noS w (by decide)
  have K2 := fun w => kvalid_any 1 b noS w (by decide)
  rw [h1] at K1
  rw [h2] at K2
  have KK1 := Lib.hid K1
  have KK2 := Lib.hid K2
  have HH := Lib.hid hh
  have T1 := tdiv_bd a b ha1 ha2
  have T2 := tmod_bd a b ha1 ha2
  have T3 : a.tdiv b * b + a.tmod b = a := by rw [Int.mul_comm]; exact Int.mul_tdiv_add_tmod a b
  have T4 : max (a.tmod b) (-(a.tmod b)) < max b (-b) := by
    have h : (a.tmod b).natAbs = a.natAbs % b.natAbs := Int.natAbs_tmod a b
    have h3 : a.natAbs % b.natAbs < b.natAbs := Nat.mod_lt _ (by omega)
    rw [← h] at h3
    clear h
    generalize a.tmod b = r at *
    omega
  have T5 : a.tmod b = 0 ∨ (a.tmod b < 0 ∧ a < 0) ∨ (0 < a.tmod b ∧ 0 ≤ a) := by
    rcases Int.lt_or_le a 0 with h | h
    · have := Int.tmod_nonneg (a := -a) b (by omega)
      rw [Int.neg_tmod] at this
      omega
    · have := Int.tmod_nonneg (a := a) b h
      omega
  have T6 := Lib.hid (And.intro T3 (And.intro T4 T5))
  generalize a.tdiv b = q at *
  generalize a.tmod b = r at *
  obtain ⟨t1, t2⟩ := T1
  obtain ⟨t3, t4⟩ := T2
  have T7 := Lib.hid (And.intro t1 (And.intro t2 (And.intro t3 t4)))
  clear K1 K2 h1 h2 hh T3 T4 T5
  go_enter Tryz.func12, Tryz.ntmps12
  go_wp2_with fail
  refine (D1.out _).mono ?_
  rintro e w1 ⟨rfl, hb1⟩
  obtain ⟨g1, p0, p1, a0, a1, a2, a3, a4, a5⟩ := keepVV hb1
  have H1 := Lib.hid g1
  clear hb1 g1 D1
  go_wp2_with fail
  refine (D2.out _).mono ?_
  rintro e w2 ⟨rfl, hb2⟩
  obtain ⟨g2, q0, q1, b0, b1, b2, b3, b4⟩ := keepV hb2
  replace a0 := cell_of g2 a0
  replace a1 := cell_of g2 a1
  replace a2 := cell_of g2 a2
  replace a3 := cell_of g2 a3
  replace a4 := cell_of g2 a4
  replace a5 := cell_of g2 a5
  have z0 : w.heap.size < w2.heap.size := by omega
  have z1 : w.heap.size + 1 < w2.heap.size := by omega
  have H2 := Lib.hid (then2 H1.out g2)
  clear hb2 g2 D2 p0 p1 H1
  go_wp2_with fail
  refine (KK1.out _).mono ?_
  rintro e w3 ⟨rfl, hb3⟩
  obtain ⟨g3, y0, y1, c0, c1, c2, c3, c4⟩ := keepV hb3
  replace a0 := cell_of g3 a0
  replace a1 := cell_of g3 a1
  replace a2 := cell_of g3 a2
  replace a3 := cell_of g3 a3
  replace a4 := cell_of g3 a4
  replace a5 := cell_of g3 a5
  replace b0 := cell_of g3 b0
  replace b1 := cell_of g3 b1
  replace b2 := cell_of g3 b2
  replace b3 := cell_of g3 b3
  replace b4 := cell_of g3 b4
  have H3 := Lib.hid (then2 H2.out g3)
  replace z0 : w.heap.size < w3.heap.size := by omega
  replace z1 : w.heap.size + 1 < w3.heap.size := by omega
  clear hb3 g3 KK1 H2
  go_wp2_with fail
  refine (KK2.out _).mono ?_
  rintro e w4 ⟨rfl, hb4⟩
  replace b0 := cell_of hb4 b0
  replace b1 := cell_of hb4 b1
  replace b3 := cell_of hb4 b3
  replace b4 := cell_of hb4 b4
  replace c0 := cell_of hb4 c0
  replace c1 := cell_of hb4 c1
  replace c3 := cell_of hb4 c3
  replace c4 := cell_of hb4 c4
  have H4 := Lib.hid (then2 H3.out hb4)
  clear hb4 H3 KK2 a0 a1 a2 a3 a4 a5
  obtain ⟨t1, t2, t3, t4⟩ := T7.out
  obtain ⟨s1, s2, s3⟩ := T6.out
  clear T6 T7
  rcases s3 with rfl | ⟨s4, s5⟩ | ⟨s4, s5⟩
  all_goals
    go_wp2_with fail
    refine (awake_any _ (HH.out.below H4.out)).mono ?_
    rintro e w5 ⟨rfl, hb5⟩
    go_wp2
    go_ret
    exact ⟨rfl, then2 H4.out hb5⟩
end Go.Proofs.YtjacdlglbjnoeaaGreatDoor
