/- The reference's Binary at the operators that compare. -/
import Derived.Test.YtjacdlglbjnoeaaGreatDoorRefBin
namespace Go.Proofs.YtjacdlglbjnoeaaGreatDoor
open Go.RowKit

set_option maxRecDepth 100000 in
set_option maxHeartbeats 2000000 in
theorem rb_11_il (n n' : Int) (hc : cmpI n n' = (-1)) : RefPost 11 1 n noS 1 n' noS 2 1 noS 0 noS := by
  intro w
  have R := fun w => rresult_any 11 1 1 w (by decide) (by decide) (by decide)
  rw [show resI 11 1 1 = 2 from rfl] at R
  have RR := Lib.hid R
  clear R
  have O := fun w => rorder_int n n' w
  rw [hc] at O
  have OO := Lib.hid O
  clear O hc
  go_enter Tryz.func26, Tryz.ntmps26
  have KX := Lib.hid (Kept4.start w 1 n noS 1 n' noS)
  go_wp2_with (first
    | (go_at_call 53; refine (RR.out _).mono ?_; rintro e w' ⟨rfl, rfl⟩)
    | (go_at_call 54; refine (OO.out _).mono ?_; rintro e Y ⟨rfl, hb⟩; have KK := Lib.hid (KX.out.later hb); clear KX; have KX := KK; clear KK hb; obtain ⟨_, a0, a1, a2, a3, a4, a5, b0, b1, b2, b3, b4, f0, f1, f2, f3, f4⟩ := KX.out)
    | (go_at_call 51; refine (rtruth_any _ _).mono ?_; rintro e Y ⟨rfl, hb⟩; have KK := Lib.hid (KX.out.later hb); clear KX; have KX := KK; clear KK hb; obtain ⟨_, a0, a1, a2, a3, a4, a5, b0, b1, b2, b3, b4, f0, f1, f2, f3, f4⟩ := KX.out))
  exact bodyPost_ret (v := pairV 2 1 noS 0 noS) (by simp [results, Tryz.results26, go_sem, b0, b1, b2, b3, b4]) rfl ⟨rfl, by (have hg := KX.out.below; (repeat (first | with_reducible exact hg | with_reducible refine Below.setCell ?_ (by first | (simp; done) | (simp; omega)) _)))⟩

set_option maxRecDepth 100000 in
set_option maxHeartbeats 2000000 in
theorem rb_11_tl (s s' : ByteArray) (hc : cmpS s s' = (-1)) : RefPost 11 3 0 s 3 0 s' 2 1 noS 0 noS := by
  intro w
  have R := fun w => rresult_any 11 3 3 w (by decide) (by decide) (by decide)
  rw [show resI 11 3 3 = 2 from rfl] at R
  have RR := Lib.hid R
  clear R
  have O := fun w => rorder_text s s' w
  rw [hc] at O
  have OO := Lib.hid O
  clear O hc
  go_enter Tryz.func26, Tryz.ntmps26
  have KX := Lib.hid (Kept4.start w 3 0 s 3 0 s')
  go_wp2_with (first
    | (go_at_call 53; refine (RR.out _).mono ?_; rintro e w' ⟨rfl, rfl⟩)
    | (go_at_call 54; refine (OO.out _).mono ?_; rintro e Y ⟨rfl, hb⟩; have KK := Lib.hid (KX.out.later hb); clear KX; have KX := KK; clear KK hb; obtain ⟨_, a0, a1, a2, a3, a4, a5, b0, b1, b2, b3, b4, f0, f1, f2, f3, f4⟩ := KX.out)
    | (go_at_call 51; refine (rtruth_any _ _).mono ?_; rintro e Y ⟨rfl, hb⟩; have KK := Lib.hid (KX.out.later hb); clear KX; have KX := KK; clear KK hb; obtain ⟨_, a0, a1, a2, a3, a4, a5, b0, b1, b2, b3, b4, f0, f1, f2, f3, f4⟩ := KX.out))
  exact bodyPost_ret (v := pairV 2 1 noS 0 noS) (by simp [results, Tryz.results26, go_sem, b0, b1, b2, b3, b4]) rfl ⟨rfl, by (have hg := KX.out.below; (repeat (first | with_reducible exact hg | with_reducible refine Below.setCell ?_ (by first | (simp; done) | (simp; omega)) _)))⟩

set_option maxRecDepth 100000 in
set_option maxHeartbeats 2000000 in
theorem rb_11_ie (n n' : Int) (hc : cmpI n n' = (0)) : RefPost 11 1 n noS 1 n' noS 2 0 noS 0 noS := by
  intro w
  have R := fun w => rresult_any 11 1 1 w (by decide) (by decide) (by decide)
  rw [show resI 11 1 1 = 2 from rfl] at R
  have RR := Lib.hid R
  clear R
  have O := fun w => rorder_int n n' w
  rw [hc] at O
  have OO := Lib.hid O
  clear O hc
  go_enter Tryz.func26, Tryz.ntmps26
  have KX := Lib.hid (Kept4.start w 1 n noS 1 n' noS)
  go_wp2_with (first
    | (go_at_call 53; refine (RR.out _).mono ?_; rintro e w' ⟨rfl, rfl⟩)
    | (go_at_call 54; refine (OO.out _).mono ?_; rintro e Y ⟨rfl, hb⟩; have KK := Lib.hid (KX.out.later hb); clear KX; have KX := KK; clear KK hb; obtain ⟨_, a0, a1, a2, a3, a4, a5, b0, b1, b2, b3, b4, f0, f1, f2, f3, f4⟩ := KX.out)
    | (go_at_call 51; refine (rtruth_any _ _).mono ?_; rintro e Y ⟨rfl, hb⟩; have KK := Lib.hid (KX.out.later hb); clear KX; have KX := KK; clear KK hb; obtain ⟨_, a0, a1, a2, a3, a4, a5, b0, b1, b2, b3, b4, f0, f1, f2, f3, f4⟩ := KX.out))
  exact bodyPost_ret (v := pairV 2 0 noS 0 noS) (by simp [results, Tryz.results26, go_sem, b0, b1, b2, b3, b4]) rfl ⟨rfl, by (have hg := KX.out.below; (repeat (first | with_reducible exact hg | with_reducible refine Below.setCell ?_ (by first | (simp; done) | (simp; omega)) _)))⟩

set_option maxRecDepth 100000 in
set_option maxHeartbeats 2000000 in
theorem rb_11_te (s s' : ByteArray) (hc : cmpS s s' = (0)) : RefPost 11 3 0 s 3 0 s' 2 0 noS 0 noS := by
  intro w
  have R := fun w => rresult_any 11 3 3 w (by decide) (by decide) (by decide)
  rw [show resI 11 3 3 = 2 from rfl] at R
  have RR := Lib.hid R
  clear R
  have O := fun w => rorder_text s s' w
  rw [hc] at O
  have OO := Lib.hid O
  clear O hc
  go_enter Tryz.func26, Tryz.ntmps26
  have KX := Lib.hid (Kept4.start w 3 0 s 3 0 s')
  go_wp2_with (first
    | (go_at_call 53; refine (RR.out _).mono ?_; rintro e w' ⟨rfl, rfl⟩)
    | (go_at_call 54; refine (OO.out _).mono ?_; rintro e Y ⟨rfl, hb⟩; have KK := Lib.hid (KX.out.later hb); clear KX; have KX := KK; clear KK hb; obtain ⟨_, a0, a1, a2, a3, a4, a5, b0, b1, b2, b3, b4, f0, f1, f2, f3, f4⟩ := KX.out)
    | (go_at_call 51; refine (rtruth_any _ _).mono ?_; rintro e Y ⟨rfl, hb⟩; have KK := Lib.hid (KX.out.later hb); clear KX; have KX := KK; clear KK hb; obtain ⟨_, a0, a1, a2, a3, a4, a5, b0, b1, b2, b3, b4, f0, f1, f2, f3, f4⟩ := KX.out))
  exact bodyPost_ret (v := pairV 2 0 noS 0 noS) (by simp [results, Tryz.results26, go_sem, b0, b1, b2, b3, b4]) rfl ⟨rfl, by (have hg := KX.out.below; (repeat (first | with_reducible exact hg | with_reducible refine Below.setCell ?_ (by first | (simp; done) | (simp; omega)) _)))⟩

set_option maxRecDepth 100000 in
set_option maxHeartbeats 2000000 in
theorem rb_11_ig (n n' : Int) (hc : cmpI n n' = (1)) : RefPost 11 1 n noS 1 n' noS 2 0 noS 0 noS := by
  intro w
  have R := fun w => rresult_any 11 1 1 w (by decide) (by decide) (by decide)
  rw [show resI 11 1 1 = 2 from rfl] at R
  have RR := Lib.hid R
  clear R
  have O := fun w => rorder_int n n' w
  rw [hc] at O
  have OO := Lib.hid O
  clear O hc
  go_enter Tryz.func26, Tryz.ntmps26
  have KX := Lib.hid (Kept4.start w 1 n noS 1 n' noS)
  go_wp2_with (first
    | (go_at_call 53; refine (RR.out _).mono ?_; rintro e w' ⟨rfl, rfl⟩)
    | (go_at_call 54; refine (OO.out _).mono ?_; rintro e Y ⟨rfl, hb⟩; have KK := Lib.hid (KX.out.later hb); clear KX; have KX := KK; clear KK hb; obtain ⟨_, a0, a1, a2, a3, a4, a5, b0, b1, b2, b3, b4, f0, f1, f2, f3, f4⟩ := KX.out)
    | (go_at_call 51; refine (rtruth_any _ _).mono ?_; rintro e Y ⟨rfl, hb⟩; have KK := Lib.hid (KX.out.later hb); clear KX; have KX := KK; clear KK hb; obtain ⟨_, a0, a1, a2, a3, a4, a5, b0, b1, b2, b3, b4, f0, f1, f2, f3, f4⟩ := KX.out))
  exact bodyPost_ret (v := pairV 2 0 noS 0 noS) (by simp [results, Tryz.results26, go_sem, b0, b1, b2, b3, b4]) rfl ⟨rfl, by (have hg := KX.out.below; (repeat (first | with_reducible exact hg | with_reducible refine Below.setCell ?_ (by first | (simp; done) | (simp; omega)) _)))⟩

set_option maxRecDepth 100000 in
set_option maxHeartbeats 2000000 in
theorem rb_11_tg (s s' : ByteArray) (hc : cmpS s s' = (1)) : RefPost 11 3 0 s 3 0 s' 2 0 noS 0 noS := by
  intro w
  have R := fun w => rresult_any 11 3 3 w (by decide) (by decide) (by decide)
  rw [show resI 11 3 3 = 2 from rfl] at R
  have RR := Lib.hid R
  clear R
  have O := fun w => rorder_text s s' w
  rw [hc] at O
  have OO := Lib.hid O
  clear O hc
  go_enter Tryz.func26, Tryz.ntmps26
  have KX := Lib.hid (Kept4.start w 3 0 s 3 0 s')
  go_wp2_with (first
    | (go_at_call 53; refine (RR.out _).mono ?_; rintro e w' ⟨rfl, rfl⟩)
    | (go_at_call 54; refine (OO.out _).mono ?_; rintro e Y ⟨rfl, hb⟩; have KK := Lib.hid (KX.out.later hb); clear KX; have KX := KK; clear KK hb; obtain ⟨_, a0, a1, a2, a3, a4, a5, b0, b1, b2, b3, b4, f0, f1, f2, f3, f4⟩ := KX.out)
    | (go_at_call 51; refine (rtruth_any _ _).mono ?_; rintro e Y ⟨rfl, hb⟩; have KK := Lib.hid (KX.out.later hb); clear KX; have KX := KK; clear KK hb; obtain ⟨_, a0, a1, a2, a3, a4, a5, b0, b1, b2, b3, b4, f0, f1, f2, f3, f4⟩ := KX.out))
  exact bodyPost_ret (v := pairV 2 0 noS 0 noS) (by simp [results, Tryz.results26, go_sem, b0, b1, b2, b3, b4]) rfl ⟨rfl, by (have hg := KX.out.below; (repeat (first | with_reducible exact hg | with_reducible refine Below.setCell ?_ (by first | (simp; done) | (simp; omega)) _)))⟩

set_option maxRecDepth 100000 in
set_option maxHeartbeats 2000000 in
theorem rb_12_il (n n' : Int) (hc : cmpI n n' = (-1)) : RefPost 12 1 n noS 1 n' noS 2 1 noS 0 noS := by
  intro w
  have R := fun w => rresult_any 12 1 1 w (by decide) (by decide) (by decide)
  rw [show resI 12 1 1 = 2 from rfl] at R
  have RR := Lib.hid R
  clear R
  have O := fun w => rorder_int n n' w
  rw [hc] at O
  have OO := Lib.hid O
  clear O hc
  go_enter Tryz.func26, Tryz.ntmps26
  have KX := Lib.hid (Kept4.start w 1 n noS 1 n' noS)
  go_wp2_with (first
    | (go_at_call 53; refine (RR.out _).mono ?_; rintro e w' ⟨rfl, rfl⟩)
    | (go_at_call 54; refine (OO.out _).mono ?_; rintro e Y ⟨rfl, hb⟩; have KK := Lib.hid (KX.out.later hb); clear KX; have KX := KK; clear KK hb; obtain ⟨_, a0, a1, a2, a3, a4, a5, b0, b1, b2, b3, b4, f0, f1, f2, f3, f4⟩ := KX.out)
    | (go_at_call 51; refine (rtruth_any _ _).mono ?_; rintro e Y ⟨rfl, hb⟩; have KK := Lib.hid (KX.out.later hb); clear KX; have KX := KK; clear KK hb; obtain ⟨_, a0, a1, a2, a3, a4, a5, b0, b1, b2, b3, b4, f0, f1, f2, f3, f4⟩ := KX.out))
  exact bodyPost_ret (v := pairV 2 1 noS 0 noS) (by simp [results, Tryz.results26, go_sem, b0, b1, b2, b3, b4]) rfl ⟨rfl, by (have hg := KX.out.below; (repeat (first | with_reducible exact hg | with_reducible refine Below.setCell ?_ (by first | (simp; done) | (simp; omega)) _)))⟩

set_option maxRecDepth 100000 in
set_option maxHeartbeats 2000000 in
theorem rb_12_tl (s s' : ByteArray) (hc : cmpS s s' = (-1)) : RefPost 12 3 0 s 3 0 s' 2 1 noS 0 noS := by
  intro w
  have R := fun w => rresult_any 12 3 3 w (by decide) (by decide) (by decide)
  rw [show resI 12 3 3 = 2 from rfl] at R
  have RR := Lib.hid R
  clear R
  have O := fun w => rorder_text s s' w
  rw [hc] at O
  have OO := Lib.hid O
  clear O hc
  go_enter Tryz.func26, Tryz.ntmps26
  have KX := Lib.hid (Kept4.start w 3 0 s 3 0 s')
  go_wp2_with (first
    | (go_at_call 53; refine (RR.out _).mono ?_; rintro e w' ⟨rfl, rfl⟩)
    | (go_at_call 54; refine (OO.out _).mono ?_; rintro e Y ⟨rfl, hb⟩; have KK := Lib.hid (KX.out.later hb); clear KX; have KX := KK; clear KK hb; obtain ⟨_, a0, a1, a2, a3, a4, a5, b0, b1, b2, b3, b4, f0, f1, f2, f3, f4⟩ := KX.out)
    | (go_at_call 51; refine (rtruth_any _ _).mono ?_; rintro e Y ⟨rfl, hb⟩; have KK := Lib.hid (KX.out.later hb); clear KX; have KX := KK; clear KK hb; obtain ⟨_, a0, a1, a2, a3, a4, a5, b0, b1, b2, b3, b4, f0, f1, f2, f3, f4⟩ := KX.out))
  exact bodyPost_ret (v := pairV 2 1 noS 0 noS) (by simp [results, Tryz.results26, go_sem, b0, b1, b2, b3, b4]) rfl ⟨rfl, by (have hg := KX.out.below; (repeat (first | with_reducible exact hg | with_reducible refine Below.setCell ?_ (by first | (simp; done) | (simp; omega)) _)))⟩

set_option maxRecDepth 100000 in
set_option maxHeartbeats 2000000 in
theorem rb_12_ie (n n' : Int) (hc : cmpI n n' = (0)) : RefPost 12 1 n noS 1 n' noS 2 1 noS 0 noS := by
  intro w
  have R := fun w => rresult_any 12 1 1 w (by decide) (by decide) (by decide)
  rw [show resI 12 1 1 = 2 from rfl] at R
  have RR := Lib.hid R
  clear R
  have O := fun w => rorder_int n n' w
  rw [hc] at O
  have OO := Lib.hid O
  clear O hc
  go_enter Tryz.func26, Tryz.ntmps26
  have KX := Lib.hid (Kept4.start w 1 n noS 1 n' noS)
  go_wp2_with (first
    | (go_at_call 53; refine (RR.out _).mono ?_; rintro e w' ⟨rfl, rfl⟩)
    | (go_at_call 54; refine (OO.out _).mono ?_; rintro e Y ⟨rfl, hb⟩; have KK := Lib.hid (KX.out.later hb); clear KX; have KX := KK; clear KK hb; obtain ⟨_, a0, a1, a2, a3, a4, a5, b0, b1, b2, b3, b4, f0, f1, f2, f3, f4⟩ := KX.out)
    | (go_at_call 51; refine (rtruth_any _ _).mono ?_; rintro e Y ⟨rfl, hb⟩; have KK := Lib.hid (KX.out.later hb); clear KX; have KX := KK; clear KK hb; obtain ⟨_, a0, a1, a2, a3, a4, a5, b0, b1, b2, b3, b4, f0, f1, f2, f3, f4⟩ := KX.out))
  exact bodyPost_ret (v := pairV 2 1 noS 0 noS) (by simp [results, Tryz.results26, go_sem, b0, b1, b2, b3, b4]) rfl ⟨rfl, by (have hg := KX.out.below; (repeat (first | with_reducible exact hg | with_reducible refine Below.setCell ?_ (by first | (simp; done) | (simp; omega)) _)))⟩

set_option maxRecDepth 100000 in
set_option maxHeartbeats 2000000 in
theorem rb_12_te (s s' : ByteArray) (hc : cmpS s s' = (0)) : RefPost 12 3 0 s 3 0 s' 2 1 noS 0 noS := by
  intro w
  have R := fun w => rresult_any 12 3 3 w (by decide) (by decide) (by decide)
  rw [show resI 12 3 3 = 2 from rfl] at R
  have RR := Lib.hid R
  clear R
  have O := fun w => rorder_text s s' w
  rw [hc] at O
  have OO := Lib.hid O
  clear O hc
  go_enter Tryz.func26, Tryz.ntmps26
  have KX := Lib.hid (Kept4.start w 3 0 s 3 0 s')
  go_wp2_with (first
    | (go_at_call 53; refine (RR.out _).mono ?_; rintro e w' ⟨rfl, rfl⟩)
    | (go_at_call 54; refine (OO.out _).mono ?_; rintro e Y ⟨rfl, hb⟩; have KK := Lib.hid (KX.out.later hb); clear KX; have KX := KK; clear KK hb; obtain ⟨_, a0, a1, a2, a3, a4, a5, b0, b1, b2, b3, b4, f0, f1, f2, f3, f4⟩ := KX.out)
    | (go_at_call 51; refine (rtruth_any _ _).mono ?_; rintro e Y ⟨rfl, hb⟩; have KK := Lib.hid (KX.out.later hb); clear KX; have KX := KK; clear KK hb; obtain ⟨_, a0, a1, a2, a3, a4, a5, b0, b1, b2, b3, b4, f0, f1, f2, f3, f4⟩ := KX.out))
  exact bodyPost_ret (v := pairV 2 1 noS 0 noS) (by simp [results, Tryz.results26, go_sem, b0, b1, b2, b3, b4]) rfl ⟨rfl, by (have hg := KX.out.below; (repeat (first | with_reducible exact hg | with_reducible refine Below.setCell ?_ (by first | (simp; done) | (simp; omega)) _)))⟩

set_option maxRecDepth 100000 in
set_option maxHeartbeats 2000000 in
theorem rb_12_ig (n n' : Int) (hc : cmpI n n' = (1)) : RefPost 12 1 n noS 1 n' noS 2 0 noS 0 noS := by
  intro w
  have R := fun w => rresult_any 12 1 1 w (by decide) (by decide) (by decide)
  rw [show resI 12 1 1 = 2 from rfl] at R
  have RR := Lib.hid R
  clear R
  have O := fun w => rorder_int n n' w
  rw [hc] at O
  have OO := Lib.hid O
  clear O hc
  go_enter Tryz.func26, Tryz.ntmps26
  have KX := Lib.hid (Kept4.start w 1 n noS 1 n' noS)
  go_wp2_with (first
    | (go_at_call 53; refine (RR.out _).mono ?_; rintro e w' ⟨rfl, rfl⟩)
    | (go_at_call 54; refine (OO.out _).mono ?_; rintro e Y ⟨rfl, hb⟩; have KK := Lib.hid (KX.out.later hb); clear KX; have KX := KK; clear KK hb; obtain ⟨_, a0, a1, a2, a3, a4, a5, b0, b1, b2, b3, b4, f0, f1, f2, f3, f4⟩ := KX.out)
    | (go_at_call 51; refine (rtruth_any _ _).mono ?_; rintro e Y ⟨rfl, hb⟩; have KK := Lib.hid (KX.out.later hb); clear KX; have KX := KK; clear KK hb; obtain ⟨_, a0, a1, a2, a3, a4, a5, b0, b1, b2, b3, b4, f0, f1, f2, f3, f4⟩ := KX.out))
  exact bodyPost_ret (v := pairV 2 0 noS 0 noS) (by simp [results, Tryz.results26, go_sem, b0, b1, b2, b3, b4]) rfl ⟨rfl, by (have hg := KX.out.below; (repeat (first | with_reducible exact hg | with_reducible refine Below.setCell ?_ (by first | (simp; done) | (simp; omega)) _)))⟩

set_option maxRecDepth 100000 in
set_option maxHeartbeats 2000000 in
theorem rb_12_tg (s s' : ByteArray) (hc : cmpS s s' = (1)) : RefPost 12 3 0 s 3 0 s' 2 0 noS 0 noS := by
  intro w
  have R := fun w => rresult_any 12 3 3 w (by decide) (by decide) (by decide)
  rw [show resI 12 3 3 = 2 from rfl] at R
  have RR := Lib.hid R
  clear R
  have O := fun w => rorder_text s s' w
  rw [hc] at O
  have OO := Lib.hid O
  clear O hc
  go_enter Tryz.func26, Tryz.ntmps26
  have KX := Lib.hid (Kept4.start w 3 0 s 3 0 s')
  go_wp2_with (first
    | (go_at_call 53; refine (RR.out _).mono ?_; rintro e w' ⟨rfl, rfl⟩)
    | (go_at_call 54; refine (OO.out _).mono ?_; rintro e Y ⟨rfl, hb⟩; have KK := Lib.hid (KX.out.later hb); clear KX; have KX := KK; clear KK hb; obtain ⟨_, a0, a1, a2, a3, a4, a5, b0, b1, b2, b3, b4, f0, f1, f2, f3, f4⟩ := KX.out)
    | (go_at_call 51; refine (rtruth_any _ _).mono ?_; rintro e Y ⟨rfl, hb⟩; have KK := Lib.hid (KX.out.later hb); clear KX; have KX := KK; clear KK hb; obtain ⟨_, a0, a1, a2, a3, a4, a5, b0, b1, b2, b3, b4, f0, f1, f2, f3, f4⟩ := KX.out))
  exact bodyPost_ret (v := pairV 2 0 noS 0 noS) (by simp [results, Tryz.results26, go_sem, b0, b1, b2, b3, b4]) rfl ⟨rfl, by (have hg := KX.out.below; (repeat (first | with_reducible exact hg | with_reducible refine Below.setCell ?_ (by first | (simp; done) | (simp; omega)) _)))⟩

set_option maxRecDepth 100000 in
set_option maxHeartbeats 2000000 in
theorem rb_13_il (n n' : Int) (hc : cmpI n n' = (-1)) : RefPost 13 1 n noS 1 n' noS 2 0 noS 0 noS := by
  intro w
  have R := fun w => rresult_any 13 1 1 w (by decide) (by decide) (by decide)
  rw [show resI 13 1 1 = 2 from rfl] at R
  have RR := Lib.hid R
  clear R
  have O := fun w => rorder_int n n' w
  rw [hc] at O
  have OO := Lib.hid O
  clear O hc
  go_enter Tryz.func26, Tryz.ntmps26
  have KX := Lib.hid (Kept4.start w 1 n noS 1 n' noS)
  go_wp2_with (first
    | (go_at_call 53; refine (RR.out _).mono ?_; rintro e w' ⟨rfl, rfl⟩)
    | (go_at_call 54; refine (OO.out _).mono ?_; rintro e Y ⟨rfl, hb⟩; have KK := Lib.hid (KX.out.later hb); clear KX; have KX := KK; clear KK hb; obtain ⟨_, a0, a1, a2, a3, a4, a5, b0, b1, b2, b3, b4, f0, f1, f2, f3, f4⟩ := KX.out)
    | (go_at_call 51; refine (rtruth_any _ _).mono ?_; rintro e Y ⟨rfl, hb⟩; have KK := Lib.hid (KX.out.later hb); clear KX; have KX := KK; clear KK hb; obtain ⟨_, a0, a1, a2, a3, a4, a5, b0, b1, b2, b3, b4, f0, f1, f2, f3, f4⟩ := KX.out))
  exact bodyPost_ret (v := pairV 2 0 noS 0 noS) (by simp [results, Tryz.results26, go_sem, b0, b1, b2, b3, b4]) rfl ⟨rfl, by (have hg := KX.out.below; (repeat (first | with_reducible exact hg | with_reducible refine Below.setCell ?_ (by first | (simp; done) | (simp; omega)) _)))⟩

set_option maxRecDepth 100000 in
set_option maxHeartbeats 2000000 in
theorem rb_13_tl (s s' : ByteArray) (hc : cmpS s s' = (-1)) : RefPost 13 3 0 s 3 0 s' 2 0 noS 0 noS := by
  intro w
  have R := fun w => rresult_any 13 3 3 w (by decide) (by decide) (by decide)
  rw [show resI 13 3 3 = 2 from rfl] at R
  have RR := Lib.hid R
  clear R
  have O := fun w => rorder_text s s' w
  rw [hc] at O
  have OO := Lib.hid O
  clear O hc
  go_enter Tryz.func26, Tryz.ntmps26
  have KX := Lib.hid (Kept4.start w 3 0 s 3 0 s')
  go_wp2_with (first
    | (go_at_call 53; refine (RR.out _).mono ?_; rintro e w' ⟨rfl, rfl⟩)
    | (go_at_call 54; refine (OO.out _).mono ?_; rintro e Y ⟨rfl, hb⟩; have KK := Lib.hid (KX.out.later hb); clear KX; have KX := KK; clear KK hb; obtain ⟨_, a0, a1, a2, a3, a4, a5, b0, b1, b2, b3, b4, f0, f1, f2, f3, f4⟩ := KX.out)
    | (go_at_call 51; refine (rtruth_any _ _).mono ?_; rintro e Y ⟨rfl, hb⟩; have KK := Lib.hid (KX.out.later hb); clear KX; have KX := KK; clear KK hb; obtain ⟨_, a0, a1, a2, a3, a4, a5, b0, b1, b2, b3, b4, f0, f1, f2, f3, f4⟩ := KX.out))
  exact bodyPost_ret (v := pairV 2 0 noS 0 noS) (by simp [results, Tryz.results26, go_sem, b0, b1, b2, b3, b4]) rfl ⟨rfl, by (have hg := KX.out.below; (repeat (first | with_reducible exact hg | with_reducible refine Below.setCell ?_ (by first | (simp; done) | (simp; omega)) _)))⟩

set_option maxRecDepth 100000 in
set_option maxHeartbeats 2000000 in
theorem rb_13_ie (n n' : Int) (hc : cmpI n n' = (0)) : RefPost 13 1 n noS 1 n' noS 2 0 noS 0 noS := by
  intro w
  have R := fun w => rresult_any 13 1 1 w (by decide) (by decide) (by decide)
  rw [show resI 13 1 1 = 2 from rfl] at R
  have RR := Lib.hid R
  clear R
  have O := fun w => rorder_int n n' w
  rw [hc] at O
  have OO := Lib.hid O
  clear O hc
  go_enter Tryz.func26, Tryz.ntmps26
  have KX := Lib.hid (Kept4.start w 1 n noS 1 n' noS)
  go_wp2_with (first
    | (go_at_call 53; refine (RR.out _).mono ?_; rintro e w' ⟨rfl, rfl⟩)
    | (go_at_call 54; refine (OO.out _).mono ?_; rintro e Y ⟨rfl, hb⟩; have KK := Lib.hid (KX.out.later hb); clear KX; have KX := KK; clear KK hb; obtain ⟨_, a0, a1, a2, a3, a4, a5, b0, b1, b2, b3, b4, f0, f1, f2, f3, f4⟩ := KX.out)
    | (go_at_call 51; refine (rtruth_any _ _).mono ?_; rintro e Y ⟨rfl, hb⟩; have KK := Lib.hid (KX.out.later hb); clear KX; have KX := KK; clear KK hb; obtain ⟨_, a0, a1, a2, a3, a4, a5, b0, b1, b2, b3, b4, f0, f1, f2, f3, f4⟩ := KX.out))
  exact bodyPost_ret (v := pairV 2 0 noS 0 noS) (by simp [results, Tryz.results26, go_sem, b0, b1, b2, b3, b4]) rfl ⟨rfl, by (have hg := KX.out.below; (repeat (first | with_reducible exact hg | with_reducible refine Below.setCell ?_ (by first | (simp; done) | (simp; omega)) _)))⟩

set_option maxRecDepth 100000 in
set_option maxHeartbeats 2000000 in
theorem rb_13_te (s s' : ByteArray) (hc : cmpS s s' = (0)) : RefPost 13 3 0 s 3 0 s' 2 0 noS 0 noS := by
  intro w
  have R := fun w => rresult_any 13 3 3 w (by decide) (by decide) (by decide)
  rw [show resI 13 3 3 = 2 from rfl] at R
  have RR := Lib.hid R
  clear R
  have O := fun w => rorder_text s s' w
  rw [hc] at O
  have OO := Lib.hid O
  clear O hc
  go_enter Tryz.func26, Tryz.ntmps26
  have KX := Lib.hid (Kept4.start w 3 0 s 3 0 s')
  go_wp2_with (first
    | (go_at_call 53; refine (RR.out _).mono ?_; rintro e w' ⟨rfl, rfl⟩)
    | (go_at_call 54; refine (OO.out _).mono ?_; rintro e Y ⟨rfl, hb⟩; have KK := Lib.hid (KX.out.later hb); clear KX; have KX := KK; clear KK hb; obtain ⟨_, a0, a1, a2, a3, a4, a5, b0, b1, b2, b3, b4, f0, f1, f2, f3, f4⟩ := KX.out)
    | (go_at_call 51; refine (rtruth_any _ _).mono ?_; rintro e Y ⟨rfl, hb⟩; have KK := Lib.hid (KX.out.later hb); clear KX; have KX := KK; clear KK hb; obtain ⟨_, a0, a1, a2, a3, a4, a5, b0, b1, b2, b3, b4, f0, f1, f2, f3, f4⟩ := KX.out))
  exact bodyPost_ret (v := pairV 2 0 noS 0 noS) (by simp [results, Tryz.results26, go_sem, b0, b1, b2, b3, b4]) rfl ⟨rfl, by (have hg := KX.out.below; (repeat (first | with_reducible exact hg | with_reducible refine Below.setCell ?_ (by first | (simp; done) | (simp; omega)) _)))⟩

set_option maxRecDepth 100000 in
set_option maxHeartbeats 2000000 in
theorem rb_13_ig (n n' : Int) (hc : cmpI n n' = (1)) : RefPost 13 1 n noS 1 n' noS 2 1 noS 0 noS := by
  intro w
  have R := fun w => rresult_any 13 1 1 w (by decide) (by decide) (by decide)
  rw [show resI 13 1 1 = 2 from rfl] at R
  have RR := Lib.hid R
  clear R
  have O := fun w => rorder_int n n' w
  rw [hc] at O
  have OO := Lib.hid O
  clear O hc
  go_enter Tryz.func26, Tryz.ntmps26
  have KX := Lib.hid (Kept4.start w 1 n noS 1 n' noS)
  go_wp2_with (first
    | (go_at_call 53; refine (RR.out _).mono ?_; rintro e w' ⟨rfl, rfl⟩)
    | (go_at_call 54; refine (OO.out _).mono ?_; rintro e Y ⟨rfl, hb⟩; have KK := Lib.hid (KX.out.later hb); clear KX; have KX := KK; clear KK hb; obtain ⟨_, a0, a1, a2, a3, a4, a5, b0, b1, b2, b3, b4, f0, f1, f2, f3, f4⟩ := KX.out)
    | (go_at_call 51; refine (rtruth_any _ _).mono ?_; rintro e Y ⟨rfl, hb⟩; have KK := Lib.hid (KX.out.later hb); clear KX; have KX := KK; clear KK hb; obtain ⟨_, a0, a1, a2, a3, a4, a5, b0, b1, b2, b3, b4, f0, f1, f2, f3, f4⟩ := KX.out))
  exact bodyPost_ret (v := pairV 2 1 noS 0 noS) (by simp [results, Tryz.results26, go_sem, b0, b1, b2, b3, b4]) rfl ⟨rfl, by (have hg := KX.out.below; (repeat (first | with_reducible exact hg | with_reducible refine Below.setCell ?_ (by first | (simp; done) | (simp; omega)) _)))⟩

set_option maxRecDepth 100000 in
set_option maxHeartbeats 2000000 in
theorem rb_13_tg (s s' : ByteArray) (hc : cmpS s s' = (1)) : RefPost 13 3 0 s 3 0 s' 2 1 noS 0 noS := by
  intro w
  have R := fun w => rresult_any 13 3 3 w (by decide) (by decide) (by decide)
  rw [show resI 13 3 3 = 2 from rfl] at R
  have RR := Lib.hid R
  clear R
  have O := fun w => rorder_text s s' w
  rw [hc] at O
  have OO := Lib.hid O
  clear O hc
  go_enter Tryz.func26, Tryz.ntmps26
  have KX := Lib.hid (Kept4.start w 3 0 s 3 0 s')
  go_wp2_with (first
    | (go_at_call 53; refine (RR.out _).mono ?_; rintro e w' ⟨rfl, rfl⟩)
    | (go_at_call 54; refine (OO.out _).mono ?_; rintro e Y ⟨rfl, hb⟩; have KK := Lib.hid (KX.out.later hb); clear KX; have KX := KK; clear KK hb; obtain ⟨_, a0, a1, a2, a3, a4, a5, b0, b1, b2, b3, b4, f0, f1, f2, f3, f4⟩ := KX.out)
    | (go_at_call 51; refine (rtruth_any _ _).mono ?_; rintro e Y ⟨rfl, hb⟩; have KK := Lib.hid (KX.out.later hb); clear KX; have KX := KK; clear KK hb; obtain ⟨_, a0, a1, a2, a3, a4, a5, b0, b1, b2, b3, b4, f0, f1, f2, f3, f4⟩ := KX.out))
  exact bodyPost_ret (v := pairV 2 1 noS 0 noS) (by simp [results, Tryz.results26, go_sem, b0, b1, b2, b3, b4]) rfl ⟨rfl, by (have hg := KX.out.below; (repeat (first | with_reducible exact hg | with_reducible refine Below.setCell ?_ (by first | (simp; done) | (simp; omega)) _)))⟩

set_option maxRecDepth 100000 in
set_option maxHeartbeats 2000000 in
theorem rb_14_il (n n' : Int) (hc : cmpI n n' = (-1)) : RefPost 14 1 n noS 1 n' noS 2 0 noS 0 noS := by
  intro w
  have R := fun w => rresult_any 14 1 1 w (by decide) (by decide) (by decide)
  rw [show resI 14 1 1 = 2 from rfl] at R
  have RR := Lib.hid R
  clear R
  have O := fun w => rorder_int n n' w
  rw [hc] at O
  have OO := Lib.hid O
  clear O hc
  go_enter Tryz.func26, Tryz.ntmps26
  have KX := Lib.hid (Kept4.start w 1 n noS 1 n' noS)
  go_wp2_with (first
    | (go_at_call 53; refine (RR.out _).mono ?_; rintro e w' ⟨rfl, rfl⟩)
    | (go_at_call 54; refine (OO.out _).mono ?_; rintro e Y ⟨rfl, hb⟩; have KK := Lib.hid (KX.out.later hb); clear KX; have KX := KK; clear KK hb; obtain ⟨_, a0, a1, a2, a3, a4, a5, b0, b1, b2, b3, b4, f0, f1, f2, f3, f4⟩ := KX.out)
    | (go_at_call 51; refine (rtruth_any _ _).mono ?_; rintro e Y ⟨rfl, hb⟩; have KK := Lib.hid (KX.out.later hb); clear KX; have KX := KK; clear KK hb; obtain ⟨_, a0, a1, a2, a3, a4, a5, b0, b1, b2, b3, b4, f0, f1, f2, f3, f4⟩ := KX.out))
  exact bodyPost_ret (v := pairV 2 0 noS 0 noS) (by simp [results, Tryz.results26, go_sem, b0, b1, b2, b3, b4]) rfl ⟨rfl, by (have hg := KX.out.below; (repeat (first | with_reducible exact hg | with_reducible refine Below.setCell ?_ (by first | (simp; done) | (simp; omega)) _)))⟩

set_option maxRecDepth 100000 in
set_option maxHeartbeats 2000000 in
theorem rb_14_tl (s s' : ByteArray) (hc : cmpS s s' = (-1)) : RefPost 14 3 0 s 3 0 s' 2 0 noS 0 noS := by
  intro w
  have R := fun w => rresult_any 14 3 3 w (by decide) (by decide) (by decide)
  rw [show resI 14 3 3 = 2 from rfl] at R
  have RR := Lib.hid R
  clear R
  have O := fun w => rorder_text s s' w
  rw [hc] at O
  have OO := Lib.hid O
  clear O hc
  go_enter Tryz.func26, Tryz.ntmps26
  have KX := Lib.hid (Kept4.start w 3 0 s 3 0 s')
  go_wp2_with (first
    | (go_at_call 53; refine (RR.out _).mono ?_; rintro e w' ⟨rfl, rfl⟩)
    | (go_at_call 54; refine (OO.out _).mono ?_; rintro e Y ⟨rfl, hb⟩; have KK := Lib.hid (KX.out.later hb); clear KX; have KX := KK; clear KK hb; obtain ⟨_, a0, a1, a2, a3, a4, a5, b0, b1, b2, b3, b4, f0, f1, f2, f3, f4⟩ := KX.out)
    | (go_at_call 51; refine (rtruth_any _ _).mono ?_; rintro e Y ⟨rfl, hb⟩; have KK := Lib.hid (KX.out.later hb); clear KX; have KX := KK; clear KK hb; obtain ⟨_, a0, a1, a2, a3, a4, a5, b0, b1, b2, b3, b4, f0, f1, f2, f3, f4⟩ := KX.out))
  exact bodyPost_ret (v := pairV 2 0 noS 0 noS) (by simp [results, Tryz.results26, go_sem, b0, b1, b2, b3, b4]) rfl ⟨rfl, by (have hg := KX.out.below; (repeat (first | with_reducible exact hg | with_reducible refine Below.setCell ?_ (by first | (simp; done) | (simp; omega)) _)))⟩

set_option maxRecDepth 100000 in
set_option maxHeartbeats 2000000 in
theorem rb_14_ie (n n' : Int) (hc : cmpI n n' = (0)) : RefPost 14 1 n noS 1 n' noS 2 1 noS 0 noS := by
  intro w
  have R := fun w => rresult_any 14 1 1 w (by decide) (by decide) (by decide)
  rw [show resI 14 1 1 = 2 from rfl] at R
  have RR := Lib.hid R
  clear R
  have O := fun w => rorder_int n n' w
  rw [hc] at O
  have OO := Lib.hid O
  clear O hc
  go_enter Tryz.func26, Tryz.ntmps26
  have KX := Lib.hid (Kept4.start w 1 n noS 1 n' noS)
  go_wp2_with (first
    | (go_at_call 53; refine (RR.out _).mono ?_; rintro e w' ⟨rfl, rfl⟩)
    | (go_at_call 54; refine (OO.out _).mono ?_; rintro e Y ⟨rfl, hb⟩; have KK := Lib.hid (KX.out.later hb); clear KX; have KX := KK; clear KK hb; obtain ⟨_, a0, a1, a2, a3, a4, a5, b0, b1, b2, b3, b4, f0, f1, f2, f3, f4⟩ := KX.out)
    | (go_at_call 51; refine (rtruth_any _ _).mono ?_; rintro e Y ⟨rfl, hb⟩; have KK := Lib.hid (KX.out.later hb); clear KX; have KX := KK; clear KK hb; obtain ⟨_, a0, a1, a2, a3, a4, a5, b0, b1, b2, b3, b4, f0, f1, f2, f3, f4⟩ := KX.out))
  exact bodyPost_ret (v := pairV 2 1 noS 0 noS) (by simp [results, Tryz.results26, go_sem, b0, b1, b2, b3, b4]) rfl ⟨rfl, by (have hg := KX.out.below; (repeat (first | with_reducible exact hg | with_reducible refine Below.setCell ?_ (by first | (simp; done) | (simp; omega)) _)))⟩

set_option maxRecDepth 100000 in
set_option maxHeartbeats 2000000 in
theorem rb_14_te (s s' : ByteArray) (hc : cmpS s s' = (0)) : RefPost 14 3 0 s 3 0 s' 2 1 noS 0 noS := by
  intro w
  have R := fun w => rresult_any 14 3 3 w (by decide) (by decide) (by decide)
  rw [show resI 14 3 3 = 2 from rfl] at R
  have RR := Lib.hid R
  clear R
  have O := fun w => rorder_text s s' w
  rw [hc] at O
  have OO := Lib.hid O
  clear O hc
  go_enter Tryz.func26, Tryz.ntmps26
  have KX := Lib.hid (Kept4.start w 3 0 s 3 0 s')
  go_wp2_with (first
    | (go_at_call 53; refine (RR.out _).mono ?_; rintro e w' ⟨rfl, rfl⟩)
    | (go_at_call 54; refine (OO.out _).mono ?_; rintro e Y ⟨rfl, hb⟩; have KK := Lib.hid (KX.out.later hb); clear KX; have KX := KK; clear KK hb; obtain ⟨_, a0, a1, a2, a3, a4, a5, b0, b1, b2, b3, b4, f0, f1, f2, f3, f4⟩ := KX.out)
    | (go_at_call 51; refine (rtruth_any _ _).mono ?_; rintro e Y ⟨rfl, hb⟩; have KK := Lib.hid (KX.out.later hb); clear KX; have KX := KK; clear KK hb; obtain ⟨_, a0, a1, a2, a3, a4, a5, b0, b1, b2, b3, b4, f0, f1, f2, f3, f4⟩ := KX.out))
  exact bodyPost_ret (v := pairV 2 1 noS 0 noS) (by simp [results, Tryz.results26, go_sem, b0, b1, b2, b3, b4]) rfl ⟨rfl, by (have hg := KX.out.below; (repeat (first | with_reducible exact hg | with_reducible refine Below.setCell ?_ (by first | (simp; done) | (simp; omega)) _)))⟩

set_option maxRecDepth 100000 in
set_option maxHeartbeats 2000000 in
theorem rb_14_ig (n n' : Int) (hc : cmpI n n' = (1)) : RefPost 14 1 n noS 1 n' noS 2 1 noS 0 noS := by
  intro w
  have R := fun w => rresult_any 14 1 1 w (by decide) (by decide) (by decide)
  rw [show resI 14 1 1 = 2 from rfl] at R
  have RR := Lib.hid R
  clear R
  have O := fun w => rorder_int n n' w
  rw [hc] at O
  have OO := Lib.hid O
  clear O hc
  go_enter Tryz.func26, Tryz.ntmps26
  have KX := Lib.hid (Kept4.start w 1 n noS 1 n' noS)
  go_wp2_with (first
    | (go_at_call 53; refine (RR.out _).mono ?_; rintro e w' ⟨rfl, rfl⟩)
    | (go_at_call 54; refine (OO.out _).mono ?_; rintro e Y ⟨rfl, hb⟩; have KK := Lib.hid (KX.out.later hb); clear KX; have KX := KK; clear KK hb; obtain ⟨_, a0, a1, a2, a3, a4, a5, b0, b1, b2, b3, b4, f0, f1, f2, f3, f4⟩ := KX.out)
    | (go_at_call 51; refine (rtruth_any _ _).mono ?_; rintro e Y ⟨rfl, hb⟩; have KK := Lib.hid (KX.out.later hb); clear KX; have KX := KK; clear KK hb; obtain ⟨_, a0, a1, a2, a3, a4, a5, b0, b1, b2, b3, b4, f0, f1, f2, f3, f4⟩ := KX.out))
  exact bodyPost_ret (v := pairV 2 1 noS 0 noS) (by simp [results, Tryz.results26, go_sem, b0, b1, b2, b3, b4]) rfl ⟨rfl, by (have hg := KX.out.below; (repeat (first | with_reducible exact hg | with_reducible refine Below.setCell ?_ (by first | (simp; done) | (simp; omega)) _)))⟩

set_option maxRecDepth 100000 in
set_option maxHeartbeats 2000000 in
theorem rb_14_tg (s s' : ByteArray) (hc : cmpS s s' = (1)) : RefPost 14 3 0 s 3 0 s' 2 1 noS 0 noS := by
  intro w
  have R := fun w => rresult_any 14 3 3 w (by decide) (by decide) (by decide)
  rw [show resI 14 3 3 = 2 from rfl] at R
  have RR := Lib.hid R
  clear R
  have O := fun w => rorder_text s s' w
  rw [hc] at O
  have OO := Lib.hid O
  clear O hc
  go_enter Tryz.func26, Tryz.ntmps26
  have KX := Lib.hid (Kept4.start w 3 0 s 3 0 s')
  go_wp2_with (first
    | (go_at_call 53; refine (RR.out _).mono ?_; rintro e w' ⟨rfl, rfl⟩)
    | (go_at_call 54; refine (OO.out _).mono ?_; rintro e Y ⟨rfl, hb⟩; have KK := Lib.hid (KX.out.later hb); clear KX; have KX := KK; clear KK hb; obtain ⟨_, a0, a1, a2, a3, a4, a5, b0, b1, b2, b3, b4, f0, f1, f2, f3, f4⟩ := KX.out)
    | (go_at_call 51; refine (rtruth_any _ _).mono ?_; rintro e Y ⟨rfl, hb⟩; have KK := Lib.hid (KX.out.later hb); clear KX; have KX := KK; clear KK hb; obtain ⟨_, a0, a1, a2, a3, a4, a5, b0, b1, b2, b3, b4, f0, f1, f2, f3, f4⟩ := KX.out))
  exact bodyPost_ret (v := pairV 2 1 noS 0 noS) (by simp [results, Tryz.results26, go_sem, b0, b1, b2, b3, b4]) rfl ⟨rfl, by (have hg := KX.out.below; (repeat (first | with_reducible exact hg | with_reducible refine Below.setCell ?_ (by first | (simp; done) | (simp; omega)) _)))⟩

end Go.Proofs.YtjacdlglbjnoeaaGreatDoor
