/- EvalOrders: where the values are two texts. -/
import Derived.Test.YtjacdlglbjnoeaaGreatDoorLawOrd2
namespace Go.Proofs.YtjacdlglbjnoeaaGreatDoor
open Go.RowKit

set_option maxRecDepth 100000 in
set_option maxHeartbeats 4000000 in
theorem orders_ok3 (n : Int) (s : ByteArray) (n' : Int) (s' : ByteArray) (w : World) (hh : Hand w) (A : ∀ w, Calls Tryz.prog 23 #[valV 3 n s] w (BPost true w)) (B : ∀ w, Calls Tryz.prog 23 #[valV 3 n' s'] w (BPost true w))
    (X : Nat → Bool) (hC : ∀ j, j < 6 → CmpPost 3 n s n' s' (ordOp j) (X j)) (hD : CmpPost 3 n' s' n s 13 (X 0)) (h1 : (X 0 && !X 1 && !X 2 || !X 0 && X 1 && !X 2 || !X 0 && !X 1 && X 2) = true) (h3 : X 3 = !X 0) (h4 : X 4 = !X 1) (h5 : X 5 = !X 2) :
    Calls Tryz.prog 13 #[valV 3 n s, valV 3 n' s'] w fun e w' => e = .returned (.bool true) ∧ Below w.heap.size w w' := by
  have AA := Lib.hid A
  have BB := Lib.hid B
  have HH := Lib.hid hh
  have CC := Lib.hid hC
  have DD := Lib.hid hD
  have H1 := Lib.hid (And.intro h1 (And.intro h3 (And.intro h4 h5)))
  clear A B hh hC hD h1 h3 h4 h5
  go_enter Tryz.func13, Tryz.ntmps13
  go_wp2_with fail
  refine (AA.out _).mono ?_
  rintro e w1 ⟨rfl, hb⟩
  obtain ⟨hg1, z0, z1, a0, a1, a2, a3, a4, a5⟩ := keep2V hb
  clear hb
  go_wp2_with fail
  refine (BB.out _).mono ?_
  rintro e w2 ⟨rfl, hb2⟩
  have hg2 := then2 hg1 hb2
  have hz2 := hb2.size
  replace a0 := cell_of hb2 a0
  replace a1 := cell_of hb2 a1
  replace a2 := cell_of hb2 a2
  replace a3 := cell_of hb2 a3
  replace a4 := cell_of hb2 a4
  replace a5 := cell_of hb2 a5
  clear hb2 AA BB
  replace z0 : w.heap.size < w2.heap.size := by omega
  replace z1 : w.heap.size + 1 < w2.heap.size := by omega
  clear hz2 hg1
  go_wp2_with fail
  have I0 : OrdInv w ((w2.alloc (.cells #[.bool false, .bool false, .bool false, .bool false, .bool false, .bool false] 70)).alloc (.cells #[.int .i64 11, .int .i64 9, .int .i64 13, .int .i64 14, .int .i64 10, .int .i64 12] 71)) w2.heap.size 3 n s n' s' X 0 :=
    ordInv_start hg2 z1 a0 a1 a2 a3 a4 a5
  clear a0 a1 a2 a3 a4 a5 z0 z1 hg2
  go_loopw [7] (fun i wr => ∃ j : Nat, j ≤ 6 ∧ i = .int .i64 j ∧ OrdInv w wr w2.heap.size 3 n s n' s' X j) (fun i _ => 6 - (intOf i).toNat)
  case atStart => exact ⟨0, by omega, rfl, I0⟩
  case round =>
    clear I0
    obtain ⟨j, hj, rfl, I⟩ := hrel
    by_cases hlt : j < 6
    · have c0 := I.v0
      have c1 := I.v1
      have c2 := I.v2
      have d0 := I.u0
      have d1 := I.u1
      have d2 := I.u2
      have o0 := I.ops j hlt
      have II := Lib.hid I
      clear I
      have C0 := CC.out j hlt
      cases hr : X j
      · rw [hr] at C0
        have C1 : Hid (∀ w, Calls Tryz.prog 21 #[.int .i64 (ordOp j), valV 3 n s, valV 3 n' s'] w fun e w' => e = .returned (binR 2 0 noS 0 noS 0) ∧ Below w.heap.size w w') := Lib.hid C0
        have HR := Lib.hid hr
        clear C0 hr
        go_upto_region 8 with fail
        have KS : ∀ Y, Below wr.heap.size wr Y → Y.cell? ⟨w2.heap.size + 1, j, none⟩ = some (.int .i64 (ordOp j)) ∧ Y.cell? ⟨w.heap.size, 0, none⟩ = some (.int .i64 3) ∧ Y.cell? ⟨w.heap.size, 1, none⟩ = some (.int .i64 n) ∧ Y.cell? ⟨w.heap.size, 2, none⟩ = some (.string s) ∧
            Y.cell? ⟨w.heap.size + 1, 0, none⟩ = some (.int .i64 3) ∧ Y.cell? ⟨w.heap.size + 1, 1, none⟩ = some (.int .i64 n') ∧ Y.cell? ⟨w.heap.size + 1, 2, none⟩ = some (.string s') ∧ Below wr.heap.size wr Y := fun Y h =>
          ⟨cell_of h o0, cell_of h c0, cell_of h c1, cell_of h c2, cell_of h d0, cell_of h d1, cell_of h d2, h⟩
        have KH := Lib.hid KS
        have hB0 : Below wr.heap.size wr wr.drew := Below.drew (Below.refl _ _)
        clear KS
        go_cut [8, 9, 10] (fun s8 s9 s10 wx => OrdCut wr 0 s8 s9 s10 wx)
        case first =>
         go_region_held3 (fun Y => Y.cell? ⟨w2.heap.size + 1, j, none⟩ = some (.int .i64 (ordOp j)) ∧ Y.cell? ⟨w.heap.size, 0, none⟩ = some (.int .i64 3) ∧ Y.cell? ⟨w.heap.size, 1, none⟩ = some (.int .i64 n) ∧ Y.cell? ⟨w.heap.size, 2, none⟩ = some (.string s) ∧
             Y.cell? ⟨w.heap.size + 1, 0, none⟩ = some (.int .i64 3) ∧ Y.cell? ⟨w.heap.size + 1, 1, none⟩ = some (.int .i64 n') ∧ Y.cell? ⟨w.heap.size + 1, 2, none⟩ = some (.string s') ∧ Below wr.heap.size wr Y)
           (first | exact KH.out _ hB0 | exact KH.out _ hz5 | (refine KH.out _ ?_; (repeat (first | with_reducible exact hz5 | with_reducible exact Below.refl _ _ | with_reducible refine Below.drew ?_ | with_reducible refine Below.setCell ?_ (by first | exact zq | (simp; done) | (simp; omega)) _ | with_reducible refine Below.alloc ?_ (by first | exact zq | (simp; done) | (simp; omega)) _))) | (refine KH.out _ ?_; (repeat (first | with_reducible exact Below.refl _ _ | with_reducible refine Below.drew ?_ | with_reducible refine Below.setCell ?_ (by first | (simp; done) | (simp; omega)) _ | with_reducible refine Below.alloc ?_ (by first | (simp; done) | (simp; omega)) _))))
           (first | (go_at_call 21; refine (C1.out _).mono ?_; rintro e w5 ⟨rfl, hb5⟩; have hz5 : Below wr.heap.size wr w5 := (by refine Below.trans ?_ (hb5.mono (by first | (simp; done) | (simp; omega))); (repeat (first | with_reducible exact Below.refl _ _ | with_reducible refine Below.drew ?_ | with_reducible refine Below.setCell ?_ (by first | (simp; done) | (simp; omega)) _ | with_reducible refine Below.alloc ?_ (by first | (simp; done) | (simp; omega)) _))); (try have za : wr.heap.size < w5.heap.size := by (have hq := hb5.size; simp at hq; omega)); (try have zb : wr.heap.size + 1 < w5.heap.size := by (have hq := hb5.size; simp at hq; omega)); obtain ⟨hc5, hf5⟩ := bcell hb5; clear hb5; have zq := hz5.size))
         all_goals (go_wp2_with fail; go_meet)
         all_goals
           refine ⟨_, _, rfl, rfl, rfl, ?_, ?_, ?_, ?_, ?_, ?_⟩
           all_goals first
             | (simp [go_sem]; done)
             | (simp [go_sem, hc5, za]; done)
             | (simp [go_sem, hc5, za, zb]; done)
             | (have q0 : wr.heap.size < wr.heap.size + 1 + 1 := by omega
                have q1 : wr.heap.size ≠ wr.heap.size + 1 := by omega
                simp [go_sem, hc5, za, zb, q0, q1]; done)
             | (repeat (first | with_reducible exact hz5 | with_reducible refine Below.setCell ?_ (by first | exact zq | (simp; done) | (simp; omega)) _ | with_reducible refine Below.alloc ?_ (by first | exact zq | (simp; done) | (simp; omega)) _))
        case rest =>
          obtain ⟨g, h, rfl, rfl, rfl, e0, e1, e2, e3, e4, hB⟩ := hcut
          have J := II.out.later hB
          have cx := J.x j hlt
          have fx := J.fr j hlt
          have JJ := Lib.hid J
          clear J hB KH
          go_wp2
          go_roundw
          case rel => exact ⟨j + 1, by omega, by go_num, ordInv_step JJ.out hlt HR.out⟩
          case measure => simp [intOf]; omega
      · rw [hr] at C0
        have C1 : Hid (∀ w, Calls Tryz.prog 21 #[.int .i64 (ordOp j), valV 3 n s, valV 3 n' s'] w fun e w' => e = .returned (binR 2 1 noS 0 noS 0) ∧ Below w.heap.size w w') := Lib.hid C0
        have HR := Lib.hid hr
        clear C0 hr
        go_upto_region 8 with fail
        have KS : ∀ Y, Below wr.heap.size wr Y → Y.cell? ⟨w2.heap.size + 1, j, none⟩ = some (.int .i64 (ordOp j)) ∧ Y.cell? ⟨w.heap.size, 0, none⟩ = some (.int .i64 3) ∧ Y.cell? ⟨w.heap.size, 1, none⟩ = some (.int .i64 n) ∧ Y.cell? ⟨w.heap.size, 2, none⟩ = some (.string s) ∧
            Y.cell? ⟨w.heap.size + 1, 0, none⟩ = some (.int .i64 3) ∧ Y.cell? ⟨w.heap.size + 1, 1, none⟩ = some (.int .i64 n') ∧ Y.cell? ⟨w.heap.size + 1, 2, none⟩ = some (.string s') ∧ Below wr.heap.size wr Y := fun Y h =>
          ⟨cell_of h o0, cell_of h c0, cell_of h c1, cell_of h c2, cell_of h d0, cell_of h d1, cell_of h d2, h⟩
        have KH := Lib.hid KS
        have hB0 : Below wr.heap.size wr wr.drew := Below.drew (Below.refl _ _)
        clear KS
        go_cut [8, 9, 10] (fun s8 s9 s10 wx => OrdCut wr 1 s8 s9 s10 wx)
        case first =>
         go_region_held3 (fun Y => Y.cell? ⟨w2.heap.size + 1, j, none⟩ = some (.int .i64 (ordOp j)) ∧ Y.cell? ⟨w.heap.size, 0, none⟩ = some (.int .i64 3) ∧ Y.cell? ⟨w.heap.size, 1, none⟩ = some (.int .i64 n) ∧ Y.cell? ⟨w.heap.size, 2, none⟩ = some (.string s) ∧
             Y.cell? ⟨w.heap.size + 1, 0, none⟩ = some (.int .i64 3) ∧ Y.cell? ⟨w.heap.size + 1, 1, none⟩ = some (.int .i64 n') ∧ Y.cell? ⟨w.heap.size + 1, 2, none⟩ = some (.string s') ∧ Below wr.heap.size wr Y)
           (first | exact KH.out _ hB0 | exact KH.out _ hz5 | (refine KH.out _ ?_; (repeat (first | with_reducible exact hz5 | with_reducible exact Below.refl _ _ | with_reducible refine Below.drew ?_ | with_reducible refine Below.setCell ?_ (by first | exact zq | (simp; done) | (simp; omega)) _ | with_reducible refine Below.alloc ?_ (by first | exact zq | (simp; done) | (simp; omega)) _))) | (refine KH.out _ ?_; (repeat (first | with_reducible exact Below.refl _ _ | with_reducible refine Below.drew ?_ | with_reducible refine Below.setCell ?_ (by first | (simp; done) | (simp; omega)) _ | with_reducible refine Below.alloc ?_ (by first | (simp; done) | (simp; omega)) _))))
           (first | (go_at_call 21; refine (C1.out _).mono ?_; rintro e w5 ⟨rfl, hb5⟩; have hz5 : Below wr.heap.size wr w5 := (by refine Below.trans ?_ (hb5.mono (by first | (simp; done) | (simp; omega))); (repeat (first | with_reducible exact Below.refl _ _ | with_reducible refine Below.drew ?_ | with_reducible refine Below.setCell ?_ (by first | (simp; done) | (simp; omega)) _ | with_reducible refine Below.alloc ?_ (by first | (simp; done) | (simp; omega)) _))); (try have za : wr.heap.size < w5.heap.size := by (have hq := hb5.size; simp at hq; omega)); (try have zb : wr.heap.size + 1 < w5.heap.size := by (have hq := hb5.size; simp at hq; omega)); obtain ⟨hc5, hf5⟩ := bcell hb5; clear hb5; have zq := hz5.size))
         all_goals (go_wp2_with fail; go_meet)
         all_goals
           refine ⟨_, _, rfl, rfl, rfl, ?_, ?_, ?_, ?_, ?_, ?_⟩
           all_goals first
             | (simp [go_sem]; done)
             | (simp [go_sem, hc5, za]; done)
             | (simp [go_sem, hc5, za, zb]; done)
             | (have q0 : wr.heap.size < wr.heap.size + 1 + 1 := by omega
                have q1 : wr.heap.size ≠ wr.heap.size + 1 := by omega
                simp [go_sem, hc5, za, zb, q0, q1]; done)
             | (repeat (first | with_reducible exact hz5 | with_reducible refine Below.setCell ?_ (by first | exact zq | (simp; done) | (simp; omega)) _ | with_reducible refine Below.alloc ?_ (by first | exact zq | (simp; done) | (simp; omega)) _))
        case rest =>
          obtain ⟨g, h, rfl, rfl, rfl, e0, e1, e2, e3, e4, hB⟩ := hcut
          have J := II.out.later hB
          have cx := J.x j hlt
          have fx := J.fr j hlt
          have JJ := Lib.hid J
          clear J hB KH
          go_wp2
          go_roundw
          case rel => exact ⟨j + 1, by omega, by go_num, ordInv_step JJ.out hlt HR.out⟩
          case measure => simp [intOf]; omega
    · obtain rfl : j = 6 := by omega
      have c0 := I.v0
      have c1 := I.v1
      have c2 := I.v2
      have d0 := I.u0
      have d1 := I.u1
      have d2 := I.u2
      have x0 := I.x 0 (by omega)
      have x1 := I.x 1 (by omega)
      have x2 := I.x 2 (by omega)
      have x3 := I.x 3 (by omega)
      have x4 := I.x 4 (by omega)
      have x5 := I.x 5 (by omega)
      rw [if_pos (by omega)] at x0 x1 x2 x3 x4 x5
      obtain ⟨g1, g3, g4, g5⟩ := H1.out
      rw [g3] at x3
      rw [g4] at x4
      rw [g5] at x5
      have D0 := DD.out
      have HI := Lib.hid I.below
      clear I H1 DD CC g3 g4 g5
      generalize X 0 = q0 at *
      generalize X 1 = q1 at *
      generalize X 2 = q2 at *
      cases q0 <;> cases q1 <;> cases q2 <;> first | (exfalso; revert g1; decide) | skip
      all_goals
        have D1 := Lib.hid D0
        clear D0 g1
        go_wp2_with fail
        refine (D1.out _).mono ?_
        rintro e w5 ⟨rfl, hb5⟩
        have HW := Lib.hid (then2 HI.out hb5)
        replace x0 := cell_of hb5 x0
        replace x1 := cell_of hb5 x1
        replace x2 := cell_of hb5 x2
        replace x3 := cell_of hb5 x3
        replace x4 := cell_of hb5 x4
        replace x5 := cell_of hb5 x5
        have y0 := World.block_lt_of_cell? _ _ x0
        clear hb5 c0 c1 c2 d0 d1 d2 HI
        go_wp2_with fail
        have HY : Hid (∀ A B, Below w.heap.size w ((w5.alloc A).alloc B)) := Lib.hid fun A B => (HW.out.alloc HW.out.size A).alloc (by have := HW.out.size; simp; omega) B
        refine (awake_any _ (HH.out.below (HY.out _ _))).mono ?_
        rintro e w6 ⟨rfl, hb6⟩
        go_wp2
        go_ret
        exact ⟨rfl, then2 (HY.out _ _) hb6⟩

end Go.Proofs.YtjacdlglbjnoeaaGreatDoor
