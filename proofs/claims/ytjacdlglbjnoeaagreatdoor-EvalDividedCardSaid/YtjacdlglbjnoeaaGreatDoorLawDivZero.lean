/- EvalDivided at the divisor 0. -/
import Derived.Test.YtjacdlglbjnoeaaGreatDoorLawDivided
import Derived.Deep.RegionHeld3
namespace Go.Proofs.YtjacdlglbjnoeaaGreatDoor
open Go.RowKit

/-- What was there when the call began is as it was. -/
def ZS (w0 w : World) : Prop := Below w0.heap.size w0 w

theorem throw_S (p q : Nat) (w0 w : World) (h0 : w.cell? ⟨p, 0, none⟩ = some (.int .i64 1)) (h1 : w.cell? ⟨p, 1, none⟩ = some (.string zeroS)) (h2 : w.cell? ⟨q, 0, none⟩ = some (.int .i64 1)) (h3 : w.cell? ⟨q, 1, none⟩ = some (.string zeroS)) (hz : ZS w0 w) :
    Calls Tryz.prog 41 #[.string zeroS] w fun e w' => e = .returned (throwV zeroS) ∧ w'.cell? ⟨p, 0, none⟩ = some (.int .i64 1) ∧ w'.cell? ⟨p, 1, none⟩ = some (.string zeroS) ∧ w'.cell? ⟨q, 0, none⟩ = some (.int .i64 1) ∧ w'.cell? ⟨q, 1, none⟩ = some (.string zeroS) ∧ ZS w0 w' :=
  (throw_any zeroS w).mono fun _ _ ⟨he, hb⟩ => ⟨he, cell_of hb h0, cell_of hb h1, cell_of hb h2, cell_of hb h3, then2 hz hb⟩
theorem awake_S (p q : Nat) (w0 w : World) (hh : Hand w0) (h0 : w.cell? ⟨p, 0, none⟩ = some (.int .i64 1)) (h1 : w.cell? ⟨p, 1, none⟩ = some (.string zeroS)) (h2 : w.cell? ⟨q, 0, none⟩ = some (.int .i64 1)) (h3 : w.cell? ⟨q, 1, none⟩ = some (.string zeroS)) (hz : ZS w0 w) :
    Calls Tryz.prog 18 #[] w fun e w' => e = .returned (.bool true) ∧ w'.cell? ⟨p, 0, none⟩ = some (.int .i64 1) ∧ w'.cell? ⟨p, 1, none⟩ = some (.string zeroS) ∧ w'.cell? ⟨q, 0, none⟩ = some (.int .i64 1) ∧ w'.cell? ⟨q, 1, none⟩ = some (.string zeroS) ∧ ZS w0 w' :=
  (awake_any w (hh.below hz)).mono fun _ _ ⟨he, hb⟩ => ⟨he, cell_of hb h0, cell_of hb h1, cell_of hb h2, cell_of hb h3, then2 hz hb⟩

set_option maxRecDepth 100000 in
set_option maxHeartbeats 600000 in
theorem law_divided_zero (a : Int) (w : World) (hh : Hand w) (h1 : validB 1 a noS = true) (h2 : validB 1 0 noS = true) :
    Calls Tryz.prog 12 #[.int .i64 a, .int .i64 0] w fun e w' => e = .returned (.bool true) ∧ Below w.heap.size w w' := by
  have D1 := Lib.hid (show DivPost 18 a 0 (binR 0 0 noS 1 zeroS 0) from fun w => div_zero a noS noS w h1 h2 (by decide) (by decide))
  have D2 := Lib.hid (show DivPost 19 a 0 (binR 0 0 noS 1 zeroS 0) from fun w => rem_zero a noS noS w h1 h2 (by decide) (by decide))
  have K1 := fun w => kvalid_any 1 a noS w (by decide)
  have K2 := fun w => kvalid_any 1 0 noS w (by decide)
  rw [h1] at K1
  rw [h2] at K2
  have KK1 := Lib.hid K1
  have KK2 := Lib.hid K2
  have HH := Lib.hid hh
  clear K1 K2 h1 h2 hh
  go_enter Tryz.func12, Tryz.ntmps12
  go_wp2_with fail
  refine (D1.out _).mono ?_
  rintro e w1 ⟨rfl, hb1⟩
  obtain ⟨g1, p0, p1, a0, a1, a2, a3, a4, a5⟩ := keepVV hb1
  have H1 := Lib.hid g1
  clear hb1 g1 D1
  go_wp2_with fail
  refine (D2.out _).mono ?_
  rintro e w2 ⟨rfl, hb2⟩
  obtain ⟨g2, q0, q1, b0, b1, b2, b3, b4⟩ := keepV hb2
  replace a0 := cell_of g2 a0
  replace a1 := cell_of g2 a1
  replace a2 := cell_of g2 a2
  replace a3 := cell_of g2 a3
  replace a4 := cell_of g2 a4
  replace a5 := cell_of g2 a5
  have z0 : w.heap.size < w2.heap.size := by omega
  have z1 : w.heap.size + 1 < w2.heap.size := by omega
  have H2 := Lib.hid (then2 H1.out g2)
  clear hb2 g2 D2 p0 p1 H1
  go_wp2_with fail
  refine (KK1.out _).mono ?_
  rintro e w3 ⟨rfl, hb3⟩
  obtain ⟨g3, y0, y1, c0, c1, c2, c3, c4⟩ := keepV hb3
  replace a0 := cell_of g3 a0
  replace a1 := cell_of g3 a1
  replace a2 := cell_of g3 a2
  replace a3 := cell_of g3 a3
  replace a4 := cell_of g3 a4
  replace a5 := cell_of g3 a5
  replace b0 := cell_of g3 b0
  replace b1 := cell_of g3 b1
  replace b2 := cell_of g3 b2
  replace b3 := cell_of g3 b3
  replace b4 := cell_of g3 b4
  have H3 := Lib.hid (then2 H2.out g3)
  replace z0 : w.heap.size < w3.heap.size := by omega
  replace z1 : w.heap.size + 1 < w3.heap.size := by omega
  clear hb3 g3 KK1 H2
  go_wp2_with fail
  refine (KK2.out _).mono ?_
  rintro e w4 ⟨rfl, hb4⟩
  replace b0 := cell_of hb4 b0
  replace b1 := cell_of hb4 b1
  replace b3 := cell_of hb4 b3
  replace b4 := cell_of hb4 b4
  replace c0 := cell_of hb4 c0
  replace c1 := cell_of hb4 c1
  replace c3 := cell_of hb4 c3
  replace c4 := cell_of hb4 c4
  have H4 := Lib.hid (then2 H3.out hb4)
  clear hb4 H3 KK2 a0 a1 a2 a3 a4 a5
  clear b0 b1 c0 c1 b2 c2
  have z2 : w1.heap.size + 1 < w4.heap.size := by have := World.block_lt_of_cell? _ _ b3; omega
  have z3 : w2.heap.size + 1 < w4.heap.size := by have := World.block_lt_of_cell? _ _ c3; omega
  go_wp2_with fail
  have hz4 : ZS w w4.drew := Below.drew H4.out
  go_region_held3 (fun w' => w'.cell? ⟨w1.heap.size + 1, 0, none⟩ = some (.int .i64 1) ∧ w'.cell? ⟨w1.heap.size + 1, 1, none⟩ = some (.string zeroS) ∧ w'.cell? ⟨w2.heap.size + 1, 0, none⟩ = some (.int .i64 1) ∧ w'.cell? ⟨w2.heap.size + 1, 1, none⟩ = some (.string zeroS) ∧ ZS w w')
    (first | exact ⟨b3, b4, c3, c4, hz4⟩ | exact ⟨k0, k1, k2, k3, kz⟩ | go_keep)
    (first
      | (go_at_call 41; refine (throw_S (w1.heap.size + 1) (w2.heap.size + 1) w _ (by assumption) (by assumption) (by assumption) (by assumption) (by assumption)).mono ?_; rintro e w5 ⟨rfl, k0, k1, k2, k3, kz⟩)
      | (go_at_call 18; refine (awake_S (w1.heap.size + 1) (w2.heap.size + 1) w _ HH.out (by assumption) (by assumption) (by assumption) (by assumption) (by assumption)).mono ?_; rintro e w5 ⟨rfl, k0, k1, k2, k3, kz⟩))
  go_wp2
  go_ret
  exact ⟨rfl, kz⟩

theorem law_divided (a b : Int) (w : World) (hh : Hand w) : Calls Tryz.prog 12 #[.int .i64 a, .int .i64 b] w fun e w' => e = .returned (.bool true) ∧ Below w.heap.size w w' := by
  by_cases h : validB 1 a noS = true ∧ validB 1 b noS = true
  · obtain ⟨h1, h2⟩ := h
    have g1 := h1
    have g2 := h2
    rw [val1_iff] at g1 g2
    have g1' := of_decide_eq_true g1
    have g2' := of_decide_eq_true g2
    by_cases hb : b = 0
    · subst hb
      exact law_divided_zero a w hh h1 h2
    · exact law_divided_ok a b w hh h1 h2 hb g1'.1 g1'.2 g2'.1 g2'.2
  · exact law_divided_bad a b w hh h

theorem law_divided_c (a b : Int) (w : World) (_ : (Lit.int .i64 a).wf = true) (_ : (Lit.int .i64 b).wf = true) (hh : Hand w) : Calls Tryz.prog 12 #[.int .i64 a, .int .i64 b] w fun e w' => e = .returned (.bool true) ∧ Below w.heap.size w w' :=
  law_divided a b w hh
end Go.Proofs.YtjacdlglbjnoeaaGreatDoor
