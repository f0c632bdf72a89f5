/- The operators that need not compute their right operand. -/
import Derived.Test.YtjacdlglbjnoeaaGreatDoorBoth
import Derived.Deep.RegionWith
namespace Go.Proofs.YtjacdlglbjnoeaaGreatDoor
open Go.RowKit

theorem undrew1 {w w1 : World} {o : Obj} (h : Below (w.alloc o).drew.heap.size (w.alloc o).drew w1) : Below w.heap.size w w1 :=
  (Below.drew (one w o)).trans (h.mono (Below.drew (one w o)).size)

set_option maxRecDepth 100000 in
theorem settles_kind7 (k n : Int) (s : ByteArray) (w : World) (hk : ¬ k = 2) : Calls Tryz.prog 74 #[.int .i64 7, valV k n s] w fun e w' => e = .returned (.bool true) ∧ Below w.heap.size w w' := by
  have hk' : (k == 2) = false := by simpa using hk
  go_enter Tryz.func74, Tryz.ntmps74
  go_wp2_with fail
  go_region_with (go_at_call 79; refine (truth_any _ _).mono ?_; rintro e w2 ⟨rfl, hb2⟩; have HB := Lib.hid (undrew1 hb2); obtain ⟨hc2, hf2⟩ := bcell hb2)
  all_goals (go_wp2; go_ret)
  all_goals exact ⟨rfl, HB.out⟩
set_option maxRecDepth 100000 in
theorem settles_kind8 (k n : Int) (s : ByteArray) (w : World) (hk : ¬ k = 2) : Calls Tryz.prog 74 #[.int .i64 8, valV k n s] w fun e w' => e = .returned (.bool true) ∧ Below w.heap.size w w' := by
  have hk' : (k == 2) = false := by simpa using hk
  go_enter Tryz.func74, Tryz.ntmps74
  go_wp2_with fail
  go_region_with (go_at_call 79; refine (truth_any _ _).mono ?_; rintro e w2 ⟨rfl, hb2⟩; have HB := Lib.hid (undrew1 hb2); obtain ⟨hc2, hf2⟩ := bcell hb2)
  all_goals (go_wp2; go_ret)
  all_goals exact ⟨rfl, HB.out⟩
set_option maxRecDepth 100000 in
theorem settles70 (w : World) : Calls Tryz.prog 74 #[.int .i64 7, valV 2 0 noS] w fun e w' => e = .returned (.bool false) ∧ Below w.heap.size w w' := by
  go_enter Tryz.func74, Tryz.ntmps74
  go_wp2_with fail
  go_region_with (go_at_call 79; refine (truth_any _ _).mono ?_; rintro e w2 ⟨rfl, hb2⟩; have HB := Lib.hid (undrew1 hb2); obtain ⟨hc2, hf2⟩ := bcell hb2)
  all_goals (go_wp2; go_ret)
  all_goals exact ⟨rfl, HB.out⟩
set_option maxRecDepth 100000 in
theorem settles71 (w : World) : Calls Tryz.prog 74 #[.int .i64 7, valV 2 1 noS] w fun e w' => e = .returned (.bool true) ∧ Below w.heap.size w w' := by
  go_enter Tryz.func74, Tryz.ntmps74
  go_wp2_with fail
  go_region_with (go_at_call 79; refine (truth_any _ _).mono ?_; rintro e w2 ⟨rfl, hb2⟩; have HB := Lib.hid (undrew1 hb2); obtain ⟨hc2, hf2⟩ := bcell hb2)
  all_goals (go_wp2; go_ret)
  all_goals exact ⟨rfl, HB.out⟩
set_option maxRecDepth 100000 in
theorem settles80 (w : World) : Calls Tryz.prog 74 #[.int .i64 8, valV 2 0 noS] w fun e w' => e = .returned (.bool true) ∧ Below w.heap.size w w' := by
  go_enter Tryz.func74, Tryz.ntmps74
  go_wp2_with fail
  go_region_with (go_at_call 79; refine (truth_any _ _).mono ?_; rintro e w2 ⟨rfl, hb2⟩; have HB := Lib.hid (undrew1 hb2); obtain ⟨hc2, hf2⟩ := bcell hb2)
  all_goals (go_wp2; go_ret)
  all_goals exact ⟨rfl, HB.out⟩
set_option maxRecDepth 100000 in
theorem settles81 (w : World) : Calls Tryz.prog 74 #[.int .i64 8, valV 2 1 noS] w fun e w' => e = .returned (.bool false) ∧ Below w.heap.size w w' := by
  go_enter Tryz.func74, Tryz.ntmps74
  go_wp2_with fail
  go_region_with (go_at_call 79; refine (truth_any _ _).mono ?_; rintro e w2 ⟨rfl, hb2⟩; have HB := Lib.hid (undrew1 hb2); obtain ⟨hc2, hf2⟩ := bcell hb2)
  all_goals (go_wp2; go_ret)
  all_goals exact ⟨rfl, HB.out⟩

theorem grown4' {w w1 : World} {o1 o2 o3 o4 : Obj} (hb : Below ((((w.alloc o1).alloc o2).alloc o3).alloc o4).heap.size ((((w.alloc o1).alloc o2).alloc o3).alloc o4) w1) :
    Below w.heap.size w w1 ∧ w.heap.size < w1.heap.size ∧ w.heap.size + 1 < w1.heap.size ∧ w.heap.size + 1 + 1 < w1.heap.size ∧ w.heap.size + 1 + 1 + 1 < w1.heap.size := by
  have h1 := hb.size
  have h2 : ((((w.alloc o1).alloc o2).alloc o3).alloc o4).heap.size = w.heap.size + 4 := by simp
  refine ⟨?_, by omega, by omega, by omega, by omega⟩
  have h3 : Below w.heap.size w ((((w.alloc o1).alloc o2).alloc o3).alloc o4) := (((one w o1).alloc (by simp) _).alloc (by simp; omega) _).alloc (by simp; omega) _
  exact h3.trans (hb.mono h3.size)

def SettPost (op k n : Int) (s : ByteArray) (r : Bool) : Prop := ∀ w, Calls Tryz.prog 74 #[.int .i64 op, valV k n s] w fun e w' => e = .returned (.bool r) ∧ Below w.heap.size w w'

set_option maxRecDepth 100000 in
set_option maxHeartbeats 1000000 in
theorem lazy_walk (op k n : Int) (s : ByteArray) (k' n' : Int) (s' : ByteArray) (r : Bool) (b : Nat) (w : World) (hc0 : w.cell? ⟨b, 0, none⟩ = some (.int .i64 op)) (S : Hid (SettPost op k n s r)) (hk : ((if r then k else k') != 2) = false) :
    Calls Tryz.prog 110 #[valV k n s, valV k' n' s', .pointer (some ⟨b, 0, none⟩)] w fun e w' => e = .returned (if r then outV k n s 0 noS else outV k' n' s' 0 noS) ∧ Below w.heap.size w w' := by
  have hlt : b < w.heap.size := World.block_lt_of_cell? _ _ hc0
  have l1 : b < w.heap.size + 1 := by omega
  have l2 : b < w.heap.size + 1 + 1 := by omega
  have l3 : b < w.heap.size + 1 + 1 + 1 := by omega
  have l4 : b < w.heap.size + 1 + 1 + 1 + 1 := by omega
  cases r
  · have hk2 : (k' != 2) = false := hk
    obtain rfl : k' = 2 := by simpa using hk2
    clear hk hk2
    go_enter Tryz.func110, Tryz.ntmps110
    go_wp2_with fail
    refine (S.out _).mono ?_
    rintro e w1 ⟨rfl, hb1⟩
    obtain ⟨hg1, z0, z1, z2, z3⟩ := grown4' hb1
    obtain ⟨hc, hf⟩ := bcell hb1
    go_wp2
    exact bodyPost_ret (v := outV 2 n' s' 0 noS) (by simp [results, Tryz.results110, go_sem, hc]) rfl ⟨rfl, by (repeat (first | with_reducible exact hg1 | with_reducible refine Below.setCell ?_ (by first | (simp; done) | (simp; omega)) _))⟩
  · have hk2 : (k != 2) = false := hk
    obtain rfl : k = 2 := by simpa using hk2
    clear hk hk2
    go_enter Tryz.func110, Tryz.ntmps110
    go_wp2_with fail
    refine (S.out _).mono ?_
    rintro e w1 ⟨rfl, hb1⟩
    obtain ⟨hg1, z0, z1, z2, z3⟩ := grown4' hb1
    obtain ⟨hc, hf⟩ := bcell hb1
    go_wp2
    exact bodyPost_ret (v := outV 2 n s 0 noS) (by simp [results, Tryz.results110, go_sem, hc]) rfl ⟨rfl, by (repeat (first | with_reducible exact hg1 | with_reducible refine Below.setCell ?_ (by first | (simp; done) | (simp; omega)) _))⟩

set_option maxRecDepth 100000 in
set_option maxHeartbeats 1000000 in
theorem lazy_kind (op k n : Int) (s : ByteArray) (k' n' : Int) (s' : ByteArray) (r : Bool) (b : Nat) (w : World) (hc0 : w.cell? ⟨b, 0, none⟩ = some (.int .i64 op)) (S : Hid (SettPost op k n s r)) (hk : ((if r then k else k') != 2) = true) :
    Calls Tryz.prog 110 #[valV k n s, valV k' n' s', .pointer (some ⟨b, 0, none⟩)] w fun e w' => e = .returned (outV 0 0 noS 1 kindS) ∧ Below w.heap.size w w' := by
  have hlt : b < w.heap.size := World.block_lt_of_cell? _ _ hc0
  have l1 : b < w.heap.size + 1 := by omega
  have l2 : b < w.heap.size + 1 + 1 := by omega
  have l3 : b < w.heap.size + 1 + 1 + 1 := by omega
  have l4 : b < w.heap.size + 1 + 1 + 1 + 1 := by omega
  cases r
  · have hk2 : (k' != 2) = true := hk
    clear hk
    go_enter Tryz.func110, Tryz.ntmps110
    go_wp2_with fail
    refine (S.out _).mono ?_
    rintro e w1 ⟨rfl, hb1⟩
    obtain ⟨hg1, z0, z1, z2, z3⟩ := grown4' hb1
    obtain ⟨hc, hf⟩ := bcell hb1
    go_wp2_with fail
    refine (fault_any _ _).mono ?_
    rintro e w2 ⟨rfl, hb2⟩
    have hg2 := then2 hg1 hb2
    have hz2 := hb2.size
    obtain ⟨hc2, hf2⟩ := bcell hb2
    have y2 : w.heap.size + 1 + 1 < w2.heap.size := by omega
    clear hz2
    go_wp2
    exact bodyPost_ret (v := outV 0 0 noS 1 kindS) (by simp [results, Tryz.results110, go_sem, hc, hc2, z2]) rfl ⟨rfl, by (repeat (first | with_reducible exact hg2 | with_reducible refine Below.setCell ?_ (by first | (simp; done) | (simp; omega)) _))⟩
  · have hk2 : (k != 2) = true := hk
    clear hk
    go_enter Tryz.func110, Tryz.ntmps110
    go_wp2_with fail
    refine (S.out _).mono ?_
    rintro e w1 ⟨rfl, hb1⟩
    obtain ⟨hg1, z0, z1, z2, z3⟩ := grown4' hb1
    obtain ⟨hc, hf⟩ := bcell hb1
    go_wp2_with fail
    refine (fault_any _ _).mono ?_
    rintro e w2 ⟨rfl, hb2⟩
    have hg2 := then2 (Below.setCell (Below.setCell (Below.setCell hg1 (p := ⟨w.heap.size + 1 + 1 + 1, 0, none⟩) (by simp; omega) (.int .i64 k)) (p := ⟨w.heap.size + 1 + 1 + 1, 1, none⟩) (by simp; omega) (.int .i64 n)) (p := ⟨w.heap.size + 1 + 1 + 1, 2, none⟩) (by simp; omega) (.string s)) hb2
    obtain ⟨hc2, hf2⟩ := bcell hb2
    have y2 : w.heap.size + 1 + 1 < w2.heap.size := by have hz2 := hb2.size; simp at hz2; omega
    go_wp2
    exact bodyPost_ret (v := outV 0 0 noS 1 kindS) (by simp [results, Tryz.results110, go_sem, hc, hc2, z2]) rfl ⟨rfl, by (repeat (first | with_reducible exact hg2 | with_reducible refine Below.setCell ?_ (by first | (simp; done) | (simp; omega)) _))⟩
end Go.Proofs.YtjacdlglbjnoeaaGreatDoor
