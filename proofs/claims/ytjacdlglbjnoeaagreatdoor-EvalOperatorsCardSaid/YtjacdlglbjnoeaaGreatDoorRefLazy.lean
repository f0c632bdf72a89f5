/- The reference's Binary at or and and. -/
import Derived.Test.YtjacdlglbjnoeaaGreatDoorRefBin
namespace Go.Proofs.YtjacdlglbjnoeaaGreatDoor
open Go.RowKit

set_option maxRecDepth 100000 in
set_option maxHeartbeats 2000000 in
theorem rb_7_k (k n : Int) (s : ByteArray) (k' n' : Int) (s' : ByteArray) (hk : (k != 2) = true) : RefPost 7 k n s k' n' s' 0 0 noS 1 kindS := by
  intro w
  go_enter Tryz.func26, Tryz.ntmps26
  have KX := Lib.hid (Kept4.start w k n s k' n' s')
  go_wp2_with (first
    | (go_at_call 41; refine (rthrow_any _ _).mono ?_; rintro e Y ⟨rfl, hb⟩; have KK := Lib.hid (KX.out.later hb); clear KX; have KX := KK; clear KK hb; obtain ⟨_, a0, a1, a2, a3, a4, a5, b0, b1, b2, b3, b4, f0, f1, f2, f3, f4⟩ := KX.out))
  exact bodyPost_ret (v := pairV 0 0 noS 1 kindS) (by simp [results, Tryz.results26, go_sem, b0, b1, b2, b3, b4]) rfl ⟨rfl, by (have hg := KX.out.below; (repeat (first | with_reducible exact hg | with_reducible refine Below.setCell ?_ (by first | (simp; done) | (simp; omega)) _)))⟩

set_option maxRecDepth 100000 in
set_option maxHeartbeats 2000000 in
theorem rb_7_k2 (s : ByteArray) (k' n' : Int) (s' : ByteArray) (hk : (k' != 2) = true) : RefPost 7 2 0 s k' n' s' 0 0 noS 1 kindS := by
  intro w
  go_enter Tryz.func26, Tryz.ntmps26
  have KX := Lib.hid (Kept4.start w 2 0 s k' n' s')
  go_wp2_with (first
    | (go_at_call 41; refine (rthrow_any _ _).mono ?_; rintro e Y ⟨rfl, hb⟩; have KK := Lib.hid (KX.out.later hb); clear KX; have KX := KK; clear KK hb; obtain ⟨_, a0, a1, a2, a3, a4, a5, b0, b1, b2, b3, b4, f0, f1, f2, f3, f4⟩ := KX.out))
  exact bodyPost_ret (v := pairV 0 0 noS 1 kindS) (by simp [results, Tryz.results26, go_sem, b0, b1, b2, b3, b4]) rfl ⟨rfl, by (have hg := KX.out.below; (repeat (first | with_reducible exact hg | with_reducible refine Below.setCell ?_ (by first | (simp; done) | (simp; omega)) _)))⟩

set_option maxRecDepth 100000 in
set_option maxHeartbeats 2000000 in
theorem rb_8_k (k n : Int) (s : ByteArray) (k' n' : Int) (s' : ByteArray) (hk : (k != 2) = true) : RefPost 8 k n s k' n' s' 0 0 noS 1 kindS := by
  intro w
  go_enter Tryz.func26, Tryz.ntmps26
  have KX := Lib.hid (Kept4.start w k n s k' n' s')
  go_wp2_with (first
    | (go_at_call 41; refine (rthrow_any _ _).mono ?_; rintro e Y ⟨rfl, hb⟩; have KK := Lib.hid (KX.out.later hb); clear KX; have KX := KK; clear KK hb; obtain ⟨_, a0, a1, a2, a3, a4, a5, b0, b1, b2, b3, b4, f0, f1, f2, f3, f4⟩ := KX.out))
  exact bodyPost_ret (v := pairV 0 0 noS 1 kindS) (by simp [results, Tryz.results26, go_sem, b0, b1, b2, b3, b4]) rfl ⟨rfl, by (have hg := KX.out.below; (repeat (first | with_reducible exact hg | with_reducible refine Below.setCell ?_ (by first | (simp; done) | (simp; omega)) _)))⟩

set_option maxRecDepth 100000 in
set_option maxHeartbeats 2000000 in
theorem rb_8_k2 (s : ByteArray) (k' n' : Int) (s' : ByteArray) (hk : (k' != 2) = true) : RefPost 8 2 1 s k' n' s' 0 0 noS 1 kindS := by
  intro w
  go_enter Tryz.func26, Tryz.ntmps26
  have KX := Lib.hid (Kept4.start w 2 1 s k' n' s')
  go_wp2_with (first
    | (go_at_call 41; refine (rthrow_any _ _).mono ?_; rintro e Y ⟨rfl, hb⟩; have KK := Lib.hid (KX.out.later hb); clear KX; have KX := KK; clear KK hb; obtain ⟨_, a0, a1, a2, a3, a4, a5, b0, b1, b2, b3, b4, f0, f1, f2, f3, f4⟩ := KX.out))
  exact bodyPost_ret (v := pairV 0 0 noS 1 kindS) (by simp [results, Tryz.results26, go_sem, b0, b1, b2, b3, b4]) rfl ⟨rfl, by (have hg := KX.out.below; (repeat (first | with_reducible exact hg | with_reducible refine Below.setCell ?_ (by first | (simp; done) | (simp; omega)) _)))⟩

set_option maxRecDepth 100000 in
set_option maxHeartbeats 1000000 in
theorem rb_7_v (s : ByteArray) (k' n' : Int) (s' : ByteArray) : RefPost 7 2 1 s k' n' s' 2 1 s 0 noS := by
  intro w
  go_enter Tryz.func26, Tryz.ntmps26
  go_wp2
  exact bodyPost_ret (v := pairV 2 1 s 0 noS) (by simp [results, Tryz.results26, go_sem]) rfl ⟨rfl, (((one _ _).alloc (by simp) _).alloc (by simp; omega) _).alloc (by simp; omega) _⟩

set_option maxRecDepth 100000 in
set_option maxHeartbeats 1000000 in
theorem rb_7_w (s : ByteArray) (n' : Int) (s' : ByteArray) : RefPost 7 2 0 s 2 n' s' 2 n' s' 0 noS := by
  intro w
  go_enter Tryz.func26, Tryz.ntmps26
  go_wp2
  exact bodyPost_ret (v := pairV 2 n' s' 0 noS) (by simp [results, Tryz.results26, go_sem]) rfl ⟨rfl, (((one _ _).alloc (by simp) _).alloc (by simp; omega) _).alloc (by simp; omega) _⟩

set_option maxRecDepth 100000 in
set_option maxHeartbeats 1000000 in
theorem rb_8_v (s : ByteArray) (k' n' : Int) (s' : ByteArray) : RefPost 8 2 0 s k' n' s' 2 0 s 0 noS := by
  intro w
  go_enter Tryz.func26, Tryz.ntmps26
  go_wp2
  exact bodyPost_ret (v := pairV 2 0 s 0 noS) (by simp [results, Tryz.results26, go_sem]) rfl ⟨rfl, (((one _ _).alloc (by simp) _).alloc (by simp; omega) _).alloc (by simp; omega) _⟩

set_option maxRecDepth 100000 in
set_option maxHeartbeats 1000000 in
theorem rb_8_w (s : ByteArray) (n' : Int) (s' : ByteArray) : RefPost 8 2 1 s 2 n' s' 2 n' s' 0 noS := by
  intro w
  go_enter Tryz.func26, Tryz.ntmps26
  go_wp2
  exact bodyPost_ret (v := pairV 2 n' s' 0 noS) (by simp [results, Tryz.results26, go_sem]) rfl ⟨rfl, (((one _ _).alloc (by simp) _).alloc (by simp; omega) _).alloc (by simp; omega) _⟩

set_option maxRecDepth 100000 in
set_option maxHeartbeats 1000000 in
theorem rb_15_cat (s s' : ByteArray) (hs : s.size ≤ 60) (hs' : s'.size ≤ 60) (h : ¬ 60 < s.size + s'.size) : RefPost 15 3 0 s 3 0 s' 3 0 (s ++ s') 0 noS := by
  intro w
  have R := fun w => rresult_any 15 3 3 w (by decide) (by decide) (by decide)
  rw [show resI 15 3 3 = 3 from rfl] at R
  have RR := Lib.hid R
  clear R
  go_enter Tryz.func26, Tryz.ntmps26
  go_wp2_with (go_at_call 53; refine (RR.out _).mono ?_; rintro e w' ⟨rfl, rfl⟩)
  exact bodyPost_ret (v := pairV 3 0 (s ++ s') 0 noS) (by simp [results, Tryz.results26, go_sem]) rfl ⟨rfl, (((one _ _).alloc (by simp) _).alloc (by simp; omega) _).alloc (by simp; omega) _⟩

end Go.Proofs.YtjacdlglbjnoeaaGreatDoor
