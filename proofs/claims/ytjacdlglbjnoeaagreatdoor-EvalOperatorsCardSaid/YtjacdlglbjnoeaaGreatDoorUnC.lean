/- The operators of one operand: their functions, in the program and in the reference. -/
import Derived.Test.YtjacdlglbjnoeaaGreatDoorUn
import Derived.Deep.RegionWith
namespace Go.Proofs.YtjacdlglbjnoeaaGreatDoor
open Go.RowKit

theorem grown2U {w w1 : World} {o1 o2 : Obj} (hb : Below ((w.alloc o1).alloc o2).heap.size ((w.alloc o1).alloc o2) w1) : Below w.heap.size w w1 ∧ w.heap.size < w1.heap.size ∧ w.heap.size + 1 < w1.heap.size := grown2 hb
theorem undrewU {w w1 : World} (h : Below w.drew.heap.size w.drew w1) : Below w.heap.size w w1 := (Below.drew (Below.refl _ _)).trans h

set_option maxRecDepth 100000 in
theorem not_kind (k n : Int) (s : ByteArray) (w : World) (hk : (k != 2) = true) : Calls Tryz.prog 77 #[valV k n s] w fun e w' => e = .returned (outV 0 0 noS 1 kindS) ∧ Below w.heap.size w w' := by
  go_enter Tryz.func77, Tryz.ntmps77
  go_wp2_with fail
  refine (fault_any _ _).mono ?_
  rintro e w1 ⟨rfl, hb⟩
  obtain ⟨hg1, z0, z1⟩ := grown2U hb
  obtain ⟨hc, hf⟩ := bcell hb
  go_wp2
  exact bodyPost_ret (v := outV 0 0 noS 1 kindS) (by simp [results, Tryz.results77, go_sem, hc]) rfl ⟨rfl, by (repeat (first | with_reducible exact hg1 | with_reducible refine Below.setCell ?_ (by first | (simp; done) | (simp; omega)) _))⟩

set_option maxRecDepth 100000 in
theorem neg_kind (k n : Int) (s : ByteArray) (w : World) (hk : (k != 1) = true) : Calls Tryz.prog 80 #[valV k n s] w fun e w' => e = .returned (outV 0 0 noS 1 kindS) ∧ Below w.heap.size w w' := by
  go_enter Tryz.func80, Tryz.ntmps80
  go_wp2_with fail
  refine (fault_any _ _).mono ?_
  rintro e w1 ⟨rfl, hb⟩
  obtain ⟨hg1, z0, z1⟩ := grown2U hb
  obtain ⟨hc, hf⟩ := bcell hb
  go_wp2
  exact bodyPost_ret (v := outV 0 0 noS 1 kindS) (by simp [results, Tryz.results80, go_sem, hc]) rfl ⟨rfl, by (repeat (first | with_reducible exact hg1 | with_reducible refine Below.setCell ?_ (by first | (simp; done) | (simp; omega)) _))⟩

set_option maxRecDepth 100000 in
theorem neg_ok (n : Int) (s : ByteArray) (w : World) (h1 : -1000000000000 ≤ n) (h2 : n ≤ 1000000000000) : Calls Tryz.prog 80 #[valV 1 n s] w fun e w' => e = .returned (outV 1 (-n) noS 0 noS) ∧ Below w.heap.size w w' := by
  go_enter Tryz.func80, Tryz.ntmps80
  go_wp2_with fail
  refine (number_any _ _).mono ?_
  rintro e w1 ⟨rfl, hb⟩
  obtain ⟨hg1, z0, z1⟩ := grown2U hb
  obtain ⟨hc, hf⟩ := bcell hb
  go_wp2
  exact bodyPost_ret (v := outV 1 (-n) noS 0 noS) (by simp [results, Tryz.results80, go_sem, hc]) rfl ⟨rfl, by (repeat (first | with_reducible exact hg1 | with_reducible refine Below.setCell ?_ (by first | (simp; done) | (simp; omega)) _))⟩

set_option maxRecDepth 100000 in
set_option maxHeartbeats 1000000 in
theorem not_0 (w : World) : Calls Tryz.prog 77 #[valV 2 0 noS] w fun e w' => e = .returned (outV 2 1 noS 0 noS) ∧ Below w.heap.size w w' := by
  have HB : Below w.heap.size w ((w.alloc (.cells #[.int .i64 2, .int .i64 0, .string noS] 29)).alloc (.cells #[.int .i64 0, .int .i64 0, .string noS, .int .i64 0, .string noS] 77)).drew := Below.drew ((one _ _).alloc (by simp) _)
  have a0 : (((w.alloc (.cells #[.int .i64 2, .int .i64 0, .string noS] 29)).alloc (.cells #[.int .i64 0, .int .i64 0, .string noS, .int .i64 0, .string noS] 77)).drew).cell? ⟨w.heap.size, 0, none⟩ = some (.int .i64 2) := by simp [go_sem]
  have a1 : (((w.alloc (.cells #[.int .i64 2, .int .i64 0, .string noS] 29)).alloc (.cells #[.int .i64 0, .int .i64 0, .string noS, .int .i64 0, .string noS] 77)).drew).cell? ⟨w.heap.size, 1, none⟩ = some (.int .i64 0) := by simp [go_sem]
  have a2 : (((w.alloc (.cells #[.int .i64 2, .int .i64 0, .string noS] 29)).alloc (.cells #[.int .i64 0, .int .i64 0, .string noS, .int .i64 0, .string noS] 77)).drew).cell? ⟨w.heap.size, 2, none⟩ = some (.string noS) := by simp [go_sem]
  have b0 : (((w.alloc (.cells #[.int .i64 2, .int .i64 0, .string noS] 29)).alloc (.cells #[.int .i64 0, .int .i64 0, .string noS, .int .i64 0, .string noS] 77)).drew).cell? ⟨w.heap.size + 1, 0, none⟩ = some (.int .i64 0) := by simp [go_sem]
  have f0 : (((w.alloc (.cells #[.int .i64 2, .int .i64 0, .string noS] 29)).alloc (.cells #[.int .i64 0, .int .i64 0, .string noS, .int .i64 0, .string noS] 77)).drew).frozen? ⟨w.heap.size + 1, 0, none⟩ = false := by simp [go_sem]
  have b1 : (((w.alloc (.cells #[.int .i64 2, .int .i64 0, .string noS] 29)).alloc (.cells #[.int .i64 0, .int .i64 0, .string noS, .int .i64 0, .string noS] 77)).drew).cell? ⟨w.heap.size + 1, 1, none⟩ = some (.int .i64 0) := by simp [go_sem]
  have f1 : (((w.alloc (.cells #[.int .i64 2, .int .i64 0, .string noS] 29)).alloc (.cells #[.int .i64 0, .int .i64 0, .string noS, .int .i64 0, .string noS] 77)).drew).frozen? ⟨w.heap.size + 1, 1, none⟩ = false := by simp [go_sem]
  have b2 : (((w.alloc (.cells #[.int .i64 2, .int .i64 0, .string noS] 29)).alloc (.cells #[.int .i64 0, .int .i64 0, .string noS, .int .i64 0, .string noS] 77)).drew).cell? ⟨w.heap.size + 1, 2, none⟩ = some (.string noS) := by simp [go_sem]
  have f2 : (((w.alloc (.cells #[.int .i64 2, .int .i64 0, .string noS] 29)).alloc (.cells #[.int .i64 0, .int .i64 0, .string noS, .int .i64 0, .string noS] 77)).drew).frozen? ⟨w.heap.size + 1, 2, none⟩ = false := by simp [go_sem]
  have b3 : (((w.alloc (.cells #[.int .i64 2, .int .i64 0, .string noS] 29)).alloc (.cells #[.int .i64 0, .int .i64 0, .string noS, .int .i64 0, .string noS] 77)).drew).cell? ⟨w.heap.size + 1, 3, none⟩ = some (.int .i64 0) := by simp [go_sem]
  have f3 : (((w.alloc (.cells #[.int .i64 2, .int .i64 0, .string noS] 29)).alloc (.cells #[.int .i64 0, .int .i64 0, .string noS, .int .i64 0, .string noS] 77)).drew).frozen? ⟨w.heap.size + 1, 3, none⟩ = false := by simp [go_sem]
  have b4 : (((w.alloc (.cells #[.int .i64 2, .int .i64 0, .string noS] 29)).alloc (.cells #[.int .i64 0, .int .i64 0, .string noS, .int .i64 0, .string noS] 77)).drew).cell? ⟨w.heap.size + 1, 4, none⟩ = some (.string noS) := by simp [go_sem]
  have f4 : (((w.alloc (.cells #[.int .i64 2, .int .i64 0, .string noS] 29)).alloc (.cells #[.int .i64 0, .int .i64 0, .string noS, .int .i64 0, .string noS] 77)).drew).frozen? ⟨w.heap.size + 1, 4, none⟩ = false := by simp [go_sem]
  have HH := Lib.hid HB
  clear HB
  go_enter Tryz.func77, Tryz.ntmps77
  go_wp2_with fail
  go_region_with (go_at_call 79; refine (truth_any _ _).mono ?_; rintro e w2 ⟨rfl, hb2⟩; have HK := Lib.hid (then2 HH.out hb2); clear HH; have HH := HK; clear HK; have f0 := frz hb2 b0 f0; have f1 := frz hb2 b1 f1; have f2 := frz hb2 b2 f2; have f3 := frz hb2 b3 f3; have f4 := frz hb2 b4 f4; have a0 := cell_of hb2 a0; have a1 := cell_of hb2 a1; have a2 := cell_of hb2 a2; have b0 := cell_of hb2 b0; have b1 := cell_of hb2 b1; have b2 := cell_of hb2 b2; have b3 := cell_of hb2 b3; have b4 := cell_of hb2 b4; clear hb2)
  all_goals go_wp2
  all_goals
    have hg := HH.out
    exact bodyPost_ret (v := outV 2 1 noS 0 noS) (by simp [results, Tryz.results77, go_sem, b0, b1, b2, b3, b4]) rfl ⟨rfl, by (repeat (first | with_reducible exact hg | with_reducible refine Below.setCell ?_ (by first | (simp; done) | (simp; omega)) _))⟩

set_option maxRecDepth 100000 in
set_option maxHeartbeats 1000000 in
theorem not_1 (w : World) : Calls Tryz.prog 77 #[valV 2 1 noS] w fun e w' => e = .returned (outV 2 0 noS 0 noS) ∧ Below w.heap.size w w' := by
  have HB : Below w.heap.size w ((w.alloc (.cells #[.int .i64 2, .int .i64 1, .string noS] 29)).alloc (.cells #[.int .i64 0, .int .i64 0, .string noS, .int .i64 0, .string noS] 77)).drew := Below.drew ((one _ _).alloc (by simp) _)
  have a0 : (((w.alloc (.cells #[.int .i64 2, .int .i64 1, .string noS] 29)).alloc (.cells #[.int .i64 0, .int .i64 0, .string noS, .int .i64 0, .string noS] 77)).drew).cell? ⟨w.heap.size, 0, none⟩ = some (.int .i64 2) := by simp [go_sem]
  have a1 : (((w.alloc (.cells #[.int .i64 2, .int .i64 1, .string noS] 29)).alloc (.cells #[.int .i64 0, .int .i64 0, .string noS, .int .i64 0, .string noS] 77)).drew).cell? ⟨w.heap.size, 1, none⟩ = some (.int .i64 1) := by simp [go_sem]
  have a2 : (((w.alloc (.cells #[.int .i64 2, .int .i64 1, .string noS] 29)).alloc (.cells #[.int .i64 0, .int .i64 0, .string noS, .int .i64 0, .string noS] 77)).drew).cell? ⟨w.heap.size, 2, none⟩ = some (.string noS) := by simp [go_sem]
  have b0 : (((w.alloc (.cells #[.int .i64 2, .int .i64 1, .string noS] 29)).alloc (.cells #[.int .i64 0, .int .i64 0, .string noS, .int .i64 0, .string noS] 77)).drew).cell? ⟨w.heap.size + 1, 0, none⟩ = some (.int .i64 0) := by simp [go_sem]
  have f0 : (((w.alloc (.cells #[.int .i64 2, .int .i64 1, .string noS] 29)).alloc (.cells #[.int .i64 0, .int .i64 0, .string noS, .int .i64 0, .string noS] 77)).drew).frozen? ⟨w.heap.size + 1, 0, none⟩ = false := by simp [go_sem]
  have b1 : (((w.alloc (.cells #[.int .i64 2, .int .i64 1, .string noS] 29)).alloc (.cells #[.int .i64 0, .int .i64 0, .string noS, .int .i64 0, .string noS] 77)).drew).cell? ⟨w.heap.size + 1, 1, none⟩ = some (.int .i64 0) := by simp [go_sem]
  have f1 : (((w.alloc (.cells #[.int .i64 2, .int .i64 1, .string noS] 29)).alloc (.cells #[.int .i64 0, .int .i64 0, .string noS, .int .i64 0, .string noS] 77)).drew).frozen? ⟨w.heap.size + 1, 1, none⟩ = false := by simp [go_sem]
  have b2 : (((w.alloc (.cells #[.int .i64 2, .int .i64 1, .string noS] 29)).alloc (.cells #[.int .i64 0, .int .i64 0, .string noS, .int .i64 0, .string noS] 77)).drew).cell? ⟨w.heap.size + 1, 2, none⟩ = some (.string noS) := by simp [go_sem]
  have f2 : (((w.alloc (.cells #[.int .i64 2, .int .i64 1, .string noS] 29)).alloc (.cells #[.int .i64 0, .int .i64 0, .string noS, .int .i64 0, .string noS] 77)).drew).frozen? ⟨w.heap.size + 1, 2, none⟩ = false := by simp [go_sem]
  have b3 : (((w.alloc (.cells #[.int .i64 2, .int .i64 1, .string noS] 29)).alloc (.cells #[.int .i64 0, .int .i64 0, .string noS, .int .i64 0, .string noS] 77)).drew).cell? ⟨w.heap.size + 1, 3, none⟩ = some (.int .i64 0) := by simp [go_sem]
  have f3 : (((w.alloc (.cells #[.int .i64 2, .int .i64 1, .string noS] 29)).alloc (.cells #[.int .i64 0, .int .i64 0, .string noS, .int .i64 0, .string noS] 77)).drew).frozen? ⟨w.heap.size + 1, 3, none⟩ = false := by simp [go_sem]
  have b4 : (((w.alloc (.cells #[.int .i64 2, .int .i64 1, .string noS] 29)).alloc (.cells #[.int .i64 0, .int .i64 0, .string noS, .int .i64 0, .string noS] 77)).drew).cell? ⟨w.heap.size + 1, 4, none⟩ = some (.string noS) := by simp [go_sem]
  have f4 : (((w.alloc (.cells #[.int .i64 2, .int .i64 1, .string noS] 29)).alloc (.cells #[.int .i64 0, .int .i64 0, .string noS, .int .i64 0, .string noS] 77)).drew).frozen? ⟨w.heap.size + 1, 4, none⟩ = false := by simp [go_sem]
  have HH := Lib.hid HB
  clear HB
  go_enter Tryz.func77, Tryz.ntmps77
  go_wp2_with fail
  go_region_with (go_at_call 79; refine (truth_any _ _).mono ?_; rintro e w2 ⟨rfl, hb2⟩; have HK := Lib.hid (then2 HH.out hb2); clear HH; have HH := HK; clear HK; have f0 := frz hb2 b0 f0; have f1 := frz hb2 b1 f1; have f2 := frz hb2 b2 f2; have f3 := frz hb2 b3 f3; have f4 := frz hb2 b4 f4; have a0 := cell_of hb2 a0; have a1 := cell_of hb2 a1; have a2 := cell_of hb2 a2; have b0 := cell_of hb2 b0; have b1 := cell_of hb2 b1; have b2 := cell_of hb2 b2; have b3 := cell_of hb2 b3; have b4 := cell_of hb2 b4; clear hb2)
  all_goals go_wp2
  all_goals
    have hg := HH.out
    exact bodyPost_ret (v := outV 2 0 noS 0 noS) (by simp [results, Tryz.results77, go_sem, b0, b1, b2, b3, b4]) rfl ⟨rfl, by (repeat (first | with_reducible exact hg | with_reducible refine Below.setCell ?_ (by first | (simp; done) | (simp; omega)) _))⟩

end Go.Proofs.YtjacdlglbjnoeaaGreatDoor
