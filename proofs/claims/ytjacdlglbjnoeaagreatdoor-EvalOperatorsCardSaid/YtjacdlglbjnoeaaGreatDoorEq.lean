/- The operators that compare any values. -/
import Derived.Test.YtjacdlglbjnoeaaGreatDoorOrder
import Derived.Deep.RegionWith
import Derived.Deep.RegionHeld3
namespace Go.Proofs.YtjacdlglbjnoeaaGreatDoor
open Go.RowKit

set_option maxRecDepth 100000 in
set_option maxHeartbeats 1000000 in
theorem eq_kind (k k' n m : Int) (s t : ByteArray) (p : Option Addr) (w : World) (h : k ≠ k') :
    Calls Tryz.prog 111 #[valV k n s, valV k' m t, .pointer p] w fun e w' => e = .returned (outV 0 0 noS 1 kindS) ∧ Below w.heap.size w w' := by
  have h' : (k != k') = true := by simpa using h
  go_enter Tryz.func111, Tryz.ntmps111
  go_wp2_with fail
  refine (fault_any _ _).mono ?_
  rintro e w1 ⟨rfl, hb⟩
  obtain ⟨hg1, z0, z1, z2⟩ := grown3 hb
  obtain ⟨hc, hf⟩ := bcell hb
  go_wp2
  exact bodyPost_ret (v := outV 0 0 noS 1 kindS) (by simp [results, Tryz.results111, go_sem, hc]) rfl ⟨rfl, by (repeat (first | with_reducible exact hg1 | with_reducible refine Below.setCell ?_ (by first | (simp; done) | (simp; omega)) _))⟩

theorem undrew {w w1 : World} (h : Below w.drew.heap.size w.drew w1) : Below w.heap.size w w1 := (Below.drew (Below.refl _ _)).trans h

set_option maxRecDepth 100000 in
set_option maxHeartbeats 2000000 in
theorem eq_n_true (k n m : Int) (s t : ByteArray) (b : Nat) (w : World) (hc0 : w.cell? ⟨b, 0, none⟩ = some (.bool true)) (hn : (n == m) = false) :
    Calls Tryz.prog 111 #[valV k n s, valV k m t, .pointer (some ⟨b, 0, none⟩)] w fun e w' => e = .returned (boolV false) ∧ Below w.heap.size w w' := by
  have hlt : b < w.heap.size := World.block_lt_of_cell? _ _ hc0
  have l1 : b < w.heap.size + 1 := by omega
  have l2 : b < w.heap.size + 1 + 1 := by omega
  have l3 : b < w.heap.size + 1 + 1 + 1 := by omega
  go_enter Tryz.func111, Tryz.ntmps111
  go_wp2_with fail
  go_region_with (go_at_call 79; refine (truth_any _ _).mono ?_; rintro e w2 ⟨rfl, hb2⟩; obtain ⟨hg1, z0, z1, z2⟩ := grown3 (undrew hb2); obtain ⟨hc2, hf2⟩ := bcell hb2)
  all_goals go_wp2
  all_goals
    exact bodyPost_ret (v := boolV false) (by simp [results, Tryz.results111, go_sem, hc2]) rfl ⟨rfl, by (repeat (first | with_reducible exact hg1 | with_reducible refine Below.setCell ?_ (by first | (simp; done) | (simp; omega)) _))⟩

set_option maxRecDepth 100000 in
set_option maxHeartbeats 2000000 in
theorem eq_s_true (k n : Int) (s t : ByteArray) (b : Nat) (w : World) (hc0 : w.cell? ⟨b, 0, none⟩ = some (.bool true)) (hs : (s.toList == t.toList) = false) :
    Calls Tryz.prog 111 #[valV k n s, valV k n t, .pointer (some ⟨b, 0, none⟩)] w fun e w' => e = .returned (boolV false) ∧ Below w.heap.size w w' := by
  have hlt : b < w.heap.size := World.block_lt_of_cell? _ _ hc0
  have l1 : b < w.heap.size + 1 := by omega
  have l2 : b < w.heap.size + 1 + 1 := by omega
  have l3 : b < w.heap.size + 1 + 1 + 1 := by omega
  go_enter Tryz.func111, Tryz.ntmps111
  go_wp2_with fail
  go_region_with (go_at_call 79; refine (truth_any _ _).mono ?_; rintro e w2 ⟨rfl, hb2⟩; obtain ⟨hg1, z0, z1, z2⟩ := grown3 (undrew hb2); obtain ⟨hc2, hf2⟩ := bcell hb2)
  all_goals go_wp2
  all_goals
    exact bodyPost_ret (v := boolV false) (by simp [results, Tryz.results111, go_sem, hc2]) rfl ⟨rfl, by (repeat (first | with_reducible exact hg1 | with_reducible refine Below.setCell ?_ (by first | (simp; done) | (simp; omega)) _))⟩

set_option maxRecDepth 100000 in
set_option maxHeartbeats 2000000 in
theorem eq_e_true (k n : Int) (s : ByteArray) (b : Nat) (w : World) (hc0 : w.cell? ⟨b, 0, none⟩ = some (.bool true)) :
    Calls Tryz.prog 111 #[valV k n s, valV k n s, .pointer (some ⟨b, 0, none⟩)] w fun e w' => e = .returned (boolV true) ∧ Below w.heap.size w w' := by
  have hlt : b < w.heap.size := World.block_lt_of_cell? _ _ hc0
  have l1 : b < w.heap.size + 1 := by omega
  have l2 : b < w.heap.size + 1 + 1 := by omega
  have l3 : b < w.heap.size + 1 + 1 + 1 := by omega
  go_enter Tryz.func111, Tryz.ntmps111
  go_wp2_with fail
  go_region_with (go_at_call 79; refine (truth_any _ _).mono ?_; rintro e w2 ⟨rfl, hb2⟩; obtain ⟨hg1, z0, z1, z2⟩ := grown3 (undrew hb2); obtain ⟨hc2, hf2⟩ := bcell hb2)
  all_goals go_wp2
  all_goals
    exact bodyPost_ret (v := boolV true) (by simp [results, Tryz.results111, go_sem, hc2]) rfl ⟨rfl, by (repeat (first | with_reducible exact hg1 | with_reducible refine Below.setCell ?_ (by first | (simp; done) | (simp; omega)) _))⟩

set_option maxRecDepth 100000 in
set_option maxHeartbeats 2000000 in
theorem eq_n_false (k n m : Int) (s t : ByteArray) (b : Nat) (w : World) (hc0 : w.cell? ⟨b, 0, none⟩ = some (.bool false)) (hn : (n == m) = false) :
    Calls Tryz.prog 111 #[valV k n s, valV k m t, .pointer (some ⟨b, 0, none⟩)] w fun e w' => e = .returned (boolV true) ∧ Below w.heap.size w w' := by
  have hlt : b < w.heap.size := World.block_lt_of_cell? _ _ hc0
  have l1 : b < w.heap.size + 1 := by omega
  have l2 : b < w.heap.size + 1 + 1 := by omega
  have l3 : b < w.heap.size + 1 + 1 + 1 := by omega
  go_enter Tryz.func111, Tryz.ntmps111
  go_wp2_with fail
  go_region_with (go_at_call 79; refine (truth_any _ _).mono ?_; rintro e w2 ⟨rfl, hb2⟩; obtain ⟨hg1, z0, z1, z2⟩ := grown3 (undrew hb2); obtain ⟨hc2, hf2⟩ := bcell hb2)
  all_goals go_wp2
  all_goals
    exact bodyPost_ret (v := boolV true) (by simp [results, Tryz.results111, go_sem, hc2]) rfl ⟨rfl, by (repeat (first | with_reducible exact hg1 | with_reducible refine Below.setCell ?_ (by first | (simp; done) | (simp; omega)) _))⟩

set_option maxRecDepth 100000 in
set_option maxHeartbeats 2000000 in
theorem eq_s_false (k n : Int) (s t : ByteArray) (b : Nat) (w : World) (hc0 : w.cell? ⟨b, 0, none⟩ = some (.bool false)) (hs : (s.toList == t.toList) = false) :
    Calls Tryz.prog 111 #[valV k n s, valV k n t, .pointer (some ⟨b, 0, none⟩)] w fun e w' => e = .returned (boolV true) ∧ Below w.heap.size w w' := by
  have hlt : b < w.heap.size := World.block_lt_of_cell? _ _ hc0
  have l1 : b < w.heap.size + 1 := by omega
  have l2 : b < w.heap.size + 1 + 1 := by omega
  have l3 : b < w.heap.size + 1 + 1 + 1 := by omega
  go_enter Tryz.func111, Tryz.ntmps111
  go_wp2_with fail
  go_region_with (go_at_call 79; refine (truth_any _ _).mono ?_; rintro e w2 ⟨rfl, hb2⟩; obtain ⟨hg1, z0, z1, z2⟩ := grown3 (undrew hb2); obtain ⟨hc2, hf2⟩ := bcell hb2)
  all_goals go_wp2
  all_goals
    exact bodyPost_ret (v := boolV true) (by simp [results, Tryz.results111, go_sem, hc2]) rfl ⟨rfl, by (repeat (first | with_reducible exact hg1 | with_reducible refine Below.setCell ?_ (by first | (simp; done) | (simp; omega)) _))⟩

set_option maxRecDepth 100000 in
set_option maxHeartbeats 2000000 in
theorem eq_e_false (k n : Int) (s : ByteArray) (b : Nat) (w : World) (hc0 : w.cell? ⟨b, 0, none⟩ = some (.bool false)) :
    Calls Tryz.prog 111 #[valV k n s, valV k n s, .pointer (some ⟨b, 0, none⟩)] w fun e w' => e = .returned (boolV false) ∧ Below w.heap.size w w' := by
  have hlt : b < w.heap.size := World.block_lt_of_cell? _ _ hc0
  have l1 : b < w.heap.size + 1 := by omega
  have l2 : b < w.heap.size + 1 + 1 := by omega
  have l3 : b < w.heap.size + 1 + 1 + 1 := by omega
  go_enter Tryz.func111, Tryz.ntmps111
  go_wp2_with fail
  go_region_with (go_at_call 79; refine (truth_any _ _).mono ?_; rintro e w2 ⟨rfl, hb2⟩; obtain ⟨hg1, z0, z1, z2⟩ := grown3 (undrew hb2); obtain ⟨hc2, hf2⟩ := bcell hb2)
  all_goals go_wp2
  all_goals
    exact bodyPost_ret (v := boolV false) (by simp [results, Tryz.results111, go_sem, hc2]) rfl ⟨rfl, by (repeat (first | with_reducible exact hg1 | with_reducible refine Below.setCell ?_ (by first | (simp; done) | (simp; omega)) _))⟩

/-- Two values are equal. -/
def sameB (k n : Int) (s : ByteArray) (k' m : Int) (t : ByteArray) : Bool := k == k' && (n == m && s.toList == t.toList)
theorem toList_inj {s t : ByteArray} (h : (s.toList == t.toList) = true) : s = t := by
  have h1 : s.toList = t.toList := by simpa using h
  rw [ByteArray.toList_eq, ByteArray.toList_eq] at h1
  exact ByteArray.ext (Array.toList_inj.1 h1)

theorem eq_true (k n m : Int) (s t : ByteArray) (b : Nat) (w : World) (hc0 : w.cell? ⟨b, 0, none⟩ = some (.bool true)) :
    Calls Tryz.prog 111 #[valV k n s, valV k m t, .pointer (some ⟨b, 0, none⟩)] w fun e w' => e = .returned (boolV (sameB k n s k m t)) ∧ Below w.heap.size w w' := by
  cases hn : (n == m)
  · rw [show sameB k n s k m t = false by simp [sameB, hn]]
    exact eq_n_true k n m s t b w hc0 hn
  · cases hs : (s.toList == t.toList)
    · obtain rfl : n = m := by simpa using hn
      rw [show sameB k n s k n t = false by simp [sameB, hs]]
      exact eq_s_true k n s t b w hc0 hs
    · obtain rfl : n = m := by simpa using hn
      obtain rfl := toList_inj hs
      rw [show sameB k n s k n s = true by simp [sameB]]
      exact eq_e_true k n s b w hc0
theorem eq_false (k n m : Int) (s t : ByteArray) (b : Nat) (w : World) (hc0 : w.cell? ⟨b, 0, none⟩ = some (.bool false)) :
    Calls Tryz.prog 111 #[valV k n s, valV k m t, .pointer (some ⟨b, 0, none⟩)] w fun e w' => e = .returned (boolV (!sameB k n s k m t)) ∧ Below w.heap.size w w' := by
  cases hn : (n == m)
  · rw [show sameB k n s k m t = false by simp [sameB, hn]]
    exact eq_n_false k n m s t b w hc0 hn
  · cases hs : (s.toList == t.toList)
    · obtain rfl : n = m := by simpa using hn
      rw [show sameB k n s k n t = false by simp [sameB, hs]]
      exact eq_s_false k n s t b w hc0 hs
    · obtain rfl : n = m := by simpa using hn
      obtain rfl := toList_inj hs
      rw [show sameB k n s k n s = true by simp [sameB]]
      exact eq_e_false k n s b w hc0
end Go.Proofs.YtjacdlglbjnoeaaGreatDoor
