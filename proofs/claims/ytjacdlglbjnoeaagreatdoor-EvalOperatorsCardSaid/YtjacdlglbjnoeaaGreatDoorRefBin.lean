/- The reference's Binary, operator by operator. -/
import Derived.Test.YtjacdlglbjnoeaaGreatDoorRefOrd
namespace Go.Proofs.YtjacdlglbjnoeaaGreatDoor
open Go.RowKit

/-- What the reference's Binary returns. -/
def RefPost (op k n : Int) (s : ByteArray) (k' n' : Int) (s' : ByteArray) (rk rn : Int) (rs : ByteArray) (fk : Int) (ft : ByteArray) : Prop :=
  ∀ w, Calls Tryz.prog 26 #[.int .i64 op, valV k n s, valV k' n' s'] w fun e w' => e = .returned (pairV rk rn rs fk ft) ∧ Below w.heap.size w w'

set_option maxRecDepth 100000 in
set_option maxHeartbeats 2000000 in
theorem rb_kind (op k n : Int) (s : ByteArray) (k' n' : Int) (s' : ByteArray) (ho : 9 ≤ op) (ho2 : op ≤ 19) (hk : 0 ≤ k) (hr : resI op k k' = -1) : RefPost op k n s k' n' s' 0 0 noS 1 kindS := by
  intro w
  have R := fun w => rresult_any op k k' w ho ho2 hk
  rw [hr] at R
  have RR := Lib.hid R
  have e7 : (op == 7) = false := by simp; omega
  have e8 : (op == 8) = false := by simp; omega
  clear R hr hk
  go_enter Tryz.func26, Tryz.ntmps26
  have KX := Lib.hid (Kept4.start w k n s k' n' s')
  go_wp2_with (first
    | (go_at_call 53; refine (RR.out _).mono ?_; rintro e w' ⟨rfl, rfl⟩)
    | (go_at_call 41; refine (rthrow_any _ _).mono ?_; rintro e Y ⟨rfl, hb⟩; have KK := Lib.hid (KX.out.later hb); clear KX; have KX := KK; clear KK hb; obtain ⟨_, a0, a1, a2, a3, a4, a5, b0, b1, b2, b3, b4, f0, f1, f2, f3, f4⟩ := KX.out))
  exact bodyPost_ret (v := pairV 0 0 noS 1 kindS) (by simp [results, Tryz.results26, go_sem, b0, b1, b2, b3, b4]) rfl ⟨rfl, by (have hg := KX.out.below; (repeat (first | with_reducible exact hg | with_reducible refine Below.setCell ?_ (by first | (simp; done) | (simp; omega)) _)))⟩

set_option maxRecDepth 100000 in
set_option maxHeartbeats 2000000 in
theorem rb_9_n (k n : Int) (s : ByteArray) (n' : Int) (s' : ByteArray) (hk : 0 ≤ k) (hn : (n == n') = false) : RefPost 9 k n s k n' s' 2 0 noS 0 noS := by
  intro w
  have R := fun w => rresult_any 9 k k w (by decide) (by decide) hk
  rw [show resI 9 k k = 2 from by simp [resI]] at R
  have RR := Lib.hid R
  clear R
  go_enter Tryz.func26, Tryz.ntmps26
  have KX := Lib.hid (Kept4.start w k n s k n' s')
  go_wp2_with (first
    | (go_at_call 53; refine (RR.out _).mono ?_; rintro e w' ⟨rfl, rfl⟩)
    | (go_at_call 51; refine (rtruth_any _ _).mono ?_; rintro e Y ⟨rfl, hb⟩; have KK := Lib.hid (KX.out.later hb); clear KX; have KX := KK; clear KK hb; obtain ⟨_, a0, a1, a2, a3, a4, a5, b0, b1, b2, b3, b4, f0, f1, f2, f3, f4⟩ := KX.out))
  exact bodyPost_ret (v := pairV 2 0 noS 0 noS) (by simp [results, Tryz.results26, go_sem, b0, b1, b2, b3, b4]) rfl ⟨rfl, by (have hg := KX.out.below; (repeat (first | with_reducible exact hg | with_reducible refine Below.setCell ?_ (by first | (simp; done) | (simp; omega)) _)))⟩

set_option maxRecDepth 100000 in
set_option maxHeartbeats 2000000 in
theorem rb_9_s (k n : Int) (s : ByteArray) (s' : ByteArray) (hk : 0 ≤ k) (hs : (s.toList == s'.toList) = false) : RefPost 9 k n s k n s' 2 0 noS 0 noS := by
  intro w
  have R := fun w => rresult_any 9 k k w (by decide) (by decide) hk
  rw [show resI 9 k k = 2 from by simp [resI]] at R
  have RR := Lib.hid R
  clear R
  go_enter Tryz.func26, Tryz.ntmps26
  have KX := Lib.hid (Kept4.start w k n s k n s')
  go_wp2_with (first
    | (go_at_call 53; refine (RR.out _).mono ?_; rintro e w' ⟨rfl, rfl⟩)
    | (go_at_call 51; refine (rtruth_any _ _).mono ?_; rintro e Y ⟨rfl, hb⟩; have KK := Lib.hid (KX.out.later hb); clear KX; have KX := KK; clear KK hb; obtain ⟨_, a0, a1, a2, a3, a4, a5, b0, b1, b2, b3, b4, f0, f1, f2, f3, f4⟩ := KX.out))
  exact bodyPost_ret (v := pairV 2 0 noS 0 noS) (by simp [results, Tryz.results26, go_sem, b0, b1, b2, b3, b4]) rfl ⟨rfl, by (have hg := KX.out.below; (repeat (first | with_reducible exact hg | with_reducible refine Below.setCell ?_ (by first | (simp; done) | (simp; omega)) _)))⟩

set_option maxRecDepth 100000 in
set_option maxHeartbeats 2000000 in
theorem rb_9_e (k n : Int) (s : ByteArray) (hk : 0 ≤ k) : RefPost 9 k n s k n s 2 1 noS 0 noS := by
  intro w
  have R := fun w => rresult_any 9 k k w (by decide) (by decide) hk
  rw [show resI 9 k k = 2 from by simp [resI]] at R
  have RR := Lib.hid R
  clear R
  go_enter Tryz.func26, Tryz.ntmps26
  have KX := Lib.hid (Kept4.start w k n s k n s)
  go_wp2_with (first
    | (go_at_call 53; refine (RR.out _).mono ?_; rintro e w' ⟨rfl, rfl⟩)
    | (go_at_call 51; refine (rtruth_any _ _).mono ?_; rintro e Y ⟨rfl, hb⟩; have KK := Lib.hid (KX.out.later hb); clear KX; have KX := KK; clear KK hb; obtain ⟨_, a0, a1, a2, a3, a4, a5, b0, b1, b2, b3, b4, f0, f1, f2, f3, f4⟩ := KX.out))
  exact bodyPost_ret (v := pairV 2 1 noS 0 noS) (by simp [results, Tryz.results26, go_sem, b0, b1, b2, b3, b4]) rfl ⟨rfl, by (have hg := KX.out.below; (repeat (first | with_reducible exact hg | with_reducible refine Below.setCell ?_ (by first | (simp; done) | (simp; omega)) _)))⟩

set_option maxRecDepth 100000 in
set_option maxHeartbeats 2000000 in
theorem rb_10_n (k n : Int) (s : ByteArray) (n' : Int) (s' : ByteArray) (hk : 0 ≤ k) (hn : (n == n') = false) : RefPost 10 k n s k n' s' 2 1 noS 0 noS := by
  intro w
  have R := fun w => rresult_any 10 k k w (by decide) (by decide) hk
  rw [show resI 10 k k = 2 from by simp [resI]] at R
  have RR := Lib.hid R
  clear R
  go_enter Tryz.func26, Tryz.ntmps26
  have KX := Lib.hid (Kept4.start w k n s k n' s')
  go_wp2_with (first
    | (go_at_call 53; refine (RR.out _).mono ?_; rintro e w' ⟨rfl, rfl⟩)
    | (go_at_call 51; refine (rtruth_any _ _).mono ?_; rintro e Y ⟨rfl, hb⟩; have KK := Lib.hid (KX.out.later hb); clear KX; have KX := KK; clear KK hb; obtain ⟨_, a0, a1, a2, a3, a4, a5, b0, b1, b2, b3, b4, f0, f1, f2, f3, f4⟩ := KX.out))
  exact bodyPost_ret (v := pairV 2 1 noS 0 noS) (by simp [results, Tryz.results26, go_sem, b0, b1, b2, b3, b4]) rfl ⟨rfl, by (have hg := KX.out.below; (repeat (first | with_reducible exact hg | with_reducible refine Below.setCell ?_ (by first | (simp; done) | (simp; omega)) _)))⟩

set_option maxRecDepth 100000 in
set_option maxHeartbeats 2000000 in
theorem rb_10_s (k n : Int) (s : ByteArray) (s' : ByteArray) (hk : 0 ≤ k) (hs : (s.toList == s'.toList) = false) : RefPost 10 k n s k n s' 2 1 noS 0 noS := by
  intro w
  have R := fun w => rresult_any 10 k k w (by decide) (by decide) hk
  rw [show resI 10 k k = 2 from by simp [resI]] at R
  have RR := Lib.hid R
  clear R
  go_enter Tryz.func26, Tryz.ntmps26
  have KX := Lib.hid (Kept4.start w k n s k n s')
  go_wp2_with (first
    | (go_at_call 53; refine (RR.out _).mono ?_; rintro e w' ⟨rfl, rfl⟩)
    | (go_at_call 51; refine (rtruth_any _ _).mono ?_; rintro e Y ⟨rfl, hb⟩; have KK := Lib.hid (KX.out.later hb); clear KX; have KX := KK; clear KK hb; obtain ⟨_, a0, a1, a2, a3, a4, a5, b0, b1, b2, b3, b4, f0, f1, f2, f3, f4⟩ := KX.out))
  exact bodyPost_ret (v := pairV 2 1 noS 0 noS) (by simp [results, Tryz.results26, go_sem, b0, b1, b2, b3, b4]) rfl ⟨rfl, by (have hg := KX.out.below; (repeat (first | with_reducible exact hg | with_reducible refine Below.setCell ?_ (by first | (simp; done) | (simp; omega)) _)))⟩

set_option maxRecDepth 100000 in
set_option maxHeartbeats 2000000 in
theorem rb_10_e (k n : Int) (s : ByteArray) (hk : 0 ≤ k) : RefPost 10 k n s k n s 2 0 noS 0 noS := by
  intro w
  have R := fun w => rresult_any 10 k k w (by decide) (by decide) hk
  rw [show resI 10 k k = 2 from by simp [resI]] at R
  have RR := Lib.hid R
  clear R
  go_enter Tryz.func26, Tryz.ntmps26
  have KX := Lib.hid (Kept4.start w k n s k n s)
  go_wp2_with (first
    | (go_at_call 53; refine (RR.out _).mono ?_; rintro e w' ⟨rfl, rfl⟩)
    | (go_at_call 51; refine (rtruth_any _ _).mono ?_; rintro e Y ⟨rfl, hb⟩; have KK := Lib.hid (KX.out.later hb); clear KX; have KX := KK; clear KK hb; obtain ⟨_, a0, a1, a2, a3, a4, a5, b0, b1, b2, b3, b4, f0, f1, f2, f3, f4⟩ := KX.out))
  exact bodyPost_ret (v := pairV 2 0 noS 0 noS) (by simp [results, Tryz.results26, go_sem, b0, b1, b2, b3, b4]) rfl ⟨rfl, by (have hg := KX.out.below; (repeat (first | with_reducible exact hg | with_reducible refine Below.setCell ?_ (by first | (simp; done) | (simp; omega)) _)))⟩

end Go.Proofs.YtjacdlglbjnoeaaGreatDoor
