/- The reference's Binary at the operators that compute. -/
import Derived.Test.YtjacdlglbjnoeaaGreatDoorRefBin
namespace Go.Proofs.YtjacdlglbjnoeaaGreatDoor
open Go.RowKit

set_option maxRecDepth 100000 in
set_option maxHeartbeats 2000000 in
theorem rb_15_in (n : Int) (s : ByteArray) (n' : Int) (s' : ByteArray) (_h1 : -1000000000000 ≤ n) (_h2 : n ≤ 1000000000000) (_h3 : -1000000000000 ≤ n') (_h4 : n' ≤ 1000000000000) (g1 : -1000000000000 ≤ n + n') (g2 : n + n' ≤ 1000000000000) : RefPost 15 1 n s 1 n' s' 1 (n + n') noS 0 noS := by
  intro w
  have R := fun w => rresult_any 15 1 1 w (by decide) (by decide) (by decide)
  rw [show resI 15 1 1 = 1 from rfl] at R
  have RR := Lib.hid R
  clear R
  go_enter Tryz.func26, Tryz.ntmps26
  have KX := Lib.hid (Kept4.start w 1 n s 1 n' s')
  go_wp2_with (first
    | (go_at_call 53; refine (RR.out _).mono ?_; rintro e w' ⟨rfl, rfl⟩)
    | (go_at_call 52; refine (rnumber_in _ _ g1 g2).mono ?_; rintro e Y ⟨rfl, hb⟩; have KK := Lib.hid (KX.out.later hb); clear KX; have KX := KK; clear KK hb; obtain ⟨_, a0, a1, a2, a3, a4, a5, b0, b1, b2, b3, b4, f0, f1, f2, f3, f4⟩ := KX.out))
  exact bodyPost_ret (v := pairV 1 (n + n') noS 0 noS) (by simp [results, Tryz.results26, go_sem, b0, b1, b2, b3, b4]) rfl ⟨rfl, by (have hg := KX.out.below; (repeat (first | with_reducible exact hg | with_reducible refine Below.setCell ?_ (by first | (simp; done) | (simp; omega)) _)))⟩

set_option maxRecDepth 100000 in
set_option maxHeartbeats 2000000 in
theorem rb_15_out (n : Int) (s : ByteArray) (n' : Int) (s' : ByteArray) (h1 : -1000000000000 ≤ n) (h2 : n ≤ 1000000000000) (h3 : -1000000000000 ≤ n') (h4 : n' ≤ 1000000000000) (g : n + n' < -1000000000000 ∨ 1000000000000 < n + n') : RefPost 15 1 n s 1 n' s' 0 0 noS 1 bigS := by
  intro w
  have R := fun w => rresult_any 15 1 1 w (by decide) (by decide) (by decide)
  rw [show resI 15 1 1 = 1 from rfl] at R
  have RR := Lib.hid R
  clear R
  have G := Lib.hid g
  clear g
  go_enter Tryz.func26, Tryz.ntmps26
  have KX := Lib.hid (Kept4.start w 1 n s 1 n' s')
  go_wp2_with (first
    | (go_at_call 53; refine (RR.out _).mono ?_; rintro e w' ⟨rfl, rfl⟩)
    | (go_at_call 52; refine (rnumber_out _ _ G.out).mono ?_; rintro e Y ⟨rfl, hb⟩; have KK := Lib.hid (KX.out.later hb); clear KX; have KX := KK; clear KK hb; obtain ⟨_, a0, a1, a2, a3, a4, a5, b0, b1, b2, b3, b4, f0, f1, f2, f3, f4⟩ := KX.out))
  exact bodyPost_ret (v := pairV 0 0 noS 1 bigS) (by simp [results, Tryz.results26, go_sem, b0, b1, b2, b3, b4]) rfl ⟨rfl, by (have hg := KX.out.below; (repeat (first | with_reducible exact hg | with_reducible refine Below.setCell ?_ (by first | (simp; done) | (simp; omega)) _)))⟩

set_option maxRecDepth 100000 in
set_option maxHeartbeats 2000000 in
theorem rb_16_in (n : Int) (s : ByteArray) (n' : Int) (s' : ByteArray) (_h1 : -1000000000000 ≤ n) (_h2 : n ≤ 1000000000000) (_h3 : -1000000000000 ≤ n') (_h4 : n' ≤ 1000000000000) (g1 : -1000000000000 ≤ n - n') (g2 : n - n' ≤ 1000000000000) : RefPost 16 1 n s 1 n' s' 1 (n - n') noS 0 noS := by
  intro w
  have R := fun w => rresult_any 16 1 1 w (by decide) (by decide) (by decide)
  rw [show resI 16 1 1 = 1 from rfl] at R
  have RR := Lib.hid R
  clear R
  go_enter Tryz.func26, Tryz.ntmps26
  have KX := Lib.hid (Kept4.start w 1 n s 1 n' s')
  go_wp2_with (first
    | (go_at_call 53; refine (RR.out _).mono ?_; rintro e w' ⟨rfl, rfl⟩)
    | (go_at_call 52; refine (rnumber_in _ _ g1 g2).mono ?_; rintro e Y ⟨rfl, hb⟩; have KK := Lib.hid (KX.out.later hb); clear KX; have KX := KK; clear KK hb; obtain ⟨_, a0, a1, a2, a3, a4, a5, b0, b1, b2, b3, b4, f0, f1, f2, f3, f4⟩ := KX.out))
  exact bodyPost_ret (v := pairV 1 (n - n') noS 0 noS) (by simp [results, Tryz.results26, go_sem, b0, b1, b2, b3, b4]) rfl ⟨rfl, by (have hg := KX.out.below; (repeat (first | with_reducible exact hg | with_reducible refine Below.setCell ?_ (by first | (simp; done) | (simp; omega)) _)))⟩

set_option maxRecDepth 100000 in
set_option maxHeartbeats 2000000 in
theorem rb_16_out (n : Int) (s : ByteArray) (n' : Int) (s' : ByteArray) (h1 : -1000000000000 ≤ n) (h2 : n ≤ 1000000000000) (h3 : -1000000000000 ≤ n') (h4 : n' ≤ 1000000000000) (g : n - n' < -1000000000000 ∨ 1000000000000 < n - n') : RefPost 16 1 n s 1 n' s' 0 0 noS 1 bigS := by
  intro w
  have R := fun w => rresult_any 16 1 1 w (by decide) (by decide) (by decide)
  rw [show resI 16 1 1 = 1 from rfl] at R
  have RR := Lib.hid R
  clear R
  have G := Lib.hid g
  clear g
  go_enter Tryz.func26, Tryz.ntmps26
  have KX := Lib.hid (Kept4.start w 1 n s 1 n' s')
  go_wp2_with (first
    | (go_at_call 53; refine (RR.out _).mono ?_; rintro e w' ⟨rfl, rfl⟩)
    | (go_at_call 52; refine (rnumber_out _ _ G.out).mono ?_; rintro e Y ⟨rfl, hb⟩; have KK := Lib.hid (KX.out.later hb); clear KX; have KX := KK; clear KK hb; obtain ⟨_, a0, a1, a2, a3, a4, a5, b0, b1, b2, b3, b4, f0, f1, f2, f3, f4⟩ := KX.out))
  exact bodyPost_ret (v := pairV 0 0 noS 1 bigS) (by simp [results, Tryz.results26, go_sem, b0, b1, b2, b3, b4]) rfl ⟨rfl, by (have hg := KX.out.below; (repeat (first | with_reducible exact hg | with_reducible refine Below.setCell ?_ (by first | (simp; done) | (simp; omega)) _)))⟩

set_option maxRecDepth 100000 in
set_option maxHeartbeats 2000000 in
theorem rb_15_long (s s' : ByteArray) (hs : s.size ≤ 60) (hs' : s'.size ≤ 60) (h : 60 < s.size + s'.size) : RefPost 15 3 0 s 3 0 s' 0 0 noS 1 longS := by
  intro w
  have R := fun w => rresult_any 15 3 3 w (by decide) (by decide) (by decide)
  rw [show resI 15 3 3 = 3 from rfl] at R
  have RR := Lib.hid R
  clear R
  go_enter Tryz.func26, Tryz.ntmps26
  have KX := Lib.hid (Kept4.start w 3 0 s 3 0 s')
  go_wp2_with (first
    | (go_at_call 53; refine (RR.out _).mono ?_; rintro e w' ⟨rfl, rfl⟩)
    | (go_at_call 41; refine (rthrow_any _ _).mono ?_; rintro e Y ⟨rfl, hb⟩; have KK := Lib.hid (KX.out.later hb); clear KX; have KX := KK; clear KK hb; obtain ⟨_, a0, a1, a2, a3, a4, a5, b0, b1, b2, b3, b4, f0, f1, f2, f3, f4⟩ := KX.out))
  exact bodyPost_ret (v := pairV 0 0 noS 1 longS) (by simp [results, Tryz.results26, go_sem, b0, b1, b2, b3, b4]) rfl ⟨rfl, by (have hg := KX.out.below; (repeat (first | with_reducible exact hg | with_reducible refine Below.setCell ?_ (by first | (simp; done) | (simp; omega)) _)))⟩

set_option maxRecDepth 100000 in
set_option maxHeartbeats 2000000 in
theorem rb_17_zero (s : ByteArray) (n' : Int) (s' : ByteArray) (h3 : -1000000000000 ≤ n') (h4 : n' ≤ 1000000000000) : RefPost 17 1 0 s 1 n' s' 1 0 noS 0 noS := by
  intro w
  have R := fun w => rresult_any 17 1 1 w (by decide) (by decide) (by decide)
  rw [show resI 17 1 1 = 1 from rfl] at R
  have RR := Lib.hid R
  clear R
  go_enter Tryz.func26, Tryz.ntmps26
  have KX := Lib.hid (Kept4.start w 1 0 s 1 n' s')
  go_wp2_with (first
    | (go_at_call 53; refine (RR.out _).mono ?_; rintro e w' ⟨rfl, rfl⟩)
    | (go_at_call 55; refine (rtimes_zero _ _ h3 h4).mono ?_; rintro e w' ⟨rfl, rfl⟩)
    | (go_at_call 52; refine (rnumber_in _ _ (by omega) (by omega)).mono ?_; rintro e Y ⟨rfl, hb⟩; have KK := Lib.hid (KX.out.later hb); clear KX; have KX := KK; clear KK hb; obtain ⟨_, a0, a1, a2, a3, a4, a5, b0, b1, b2, b3, b4, f0, f1, f2, f3, f4⟩ := KX.out))
  exact bodyPost_ret (v := pairV 1 0 noS 0 noS) (by simp [results, Tryz.results26, go_sem, b0, b1, b2, b3, b4]) rfl ⟨rfl, by (have hg := KX.out.below; (repeat (first | with_reducible exact hg | with_reducible refine Below.setCell ?_ (by first | (simp; done) | (simp; omega)) _)))⟩

set_option maxRecDepth 100000 in
set_option maxHeartbeats 2000000 in
theorem rb_17_fit (n : Int) (s : ByteArray) (n' : Int) (s' : ByteArray) (h1 : -1000000000000 ≤ n) (h2 : n ≤ 1000000000000) (h3 : -1000000000000 ≤ n') (h4 : n' ≤ 1000000000000) (hn : n ≠ 0) (h : ¬ 1000000000000 / absI n < absI n') : RefPost 17 1 n s 1 n' s' 1 (n * n') noS 0 noS := by
  intro w
  have R := fun w => rresult_any 17 1 1 w (by decide) (by decide) (by decide)
  rw [show resI 17 1 1 = 1 from rfl] at R
  have RR := Lib.hid R
  clear R
  have T := Lib.hid (fun w => rtimes_fit n n' w h1 h2 h3 h4 hn h)
  have M := mul_fits h hn
  rw [Int.mul_comm] at M
  obtain ⟨m1, m2⟩ := M
  clear h hn
  go_enter Tryz.func26, Tryz.ntmps26
  have KX := Lib.hid (Kept4.start w 1 n s 1 n' s')
  go_wp2_with (first
    | (go_at_call 53; refine (RR.out _).mono ?_; rintro e w' ⟨rfl, rfl⟩)
    | (go_at_call 55; refine (T.out _).mono ?_; rintro e w' ⟨rfl, rfl⟩)
    | (go_at_call 52; refine (rnumber_in _ _ m1 m2).mono ?_; rintro e Y ⟨rfl, hb⟩; have KK := Lib.hid (KX.out.later hb); clear KX; have KX := KK; clear KK hb; obtain ⟨_, a0, a1, a2, a3, a4, a5, b0, b1, b2, b3, b4, f0, f1, f2, f3, f4⟩ := KX.out))
  exact bodyPost_ret (v := pairV 1 (n * n') noS 0 noS) (by simp [results, Tryz.results26, go_sem, b0, b1, b2, b3, b4]) rfl ⟨rfl, by (have hg := KX.out.below; (repeat (first | with_reducible exact hg | with_reducible refine Below.setCell ?_ (by first | (simp; done) | (simp; omega)) _)))⟩

set_option maxRecDepth 100000 in
set_option maxHeartbeats 2000000 in
theorem rb_17_big (n : Int) (s : ByteArray) (n' : Int) (s' : ByteArray) (h1 : -1000000000000 ≤ n) (h2 : n ≤ 1000000000000) (h3 : -1000000000000 ≤ n') (h4 : n' ≤ 1000000000000) (hn : n ≠ 0) (h : 1000000000000 / absI n < absI n') : RefPost 17 1 n s 1 n' s' 0 0 noS 1 bigS := by
  intro w
  have R := fun w => rresult_any 17 1 1 w (by decide) (by decide) (by decide)
  rw [show resI 17 1 1 = 1 from rfl] at R
  have RR := Lib.hid R
  clear R
  have T := Lib.hid (fun w => rtimes_big n n' w h1 h2 h3 h4 hn h)
  clear h hn
  go_enter Tryz.func26, Tryz.ntmps26
  have KX := Lib.hid (Kept4.start w 1 n s 1 n' s')
  go_wp2_with (first
    | (go_at_call 53; refine (RR.out _).mono ?_; rintro e w' ⟨rfl, rfl⟩)
    | (go_at_call 55; refine (T.out _).mono ?_; rintro e w' ⟨rfl, rfl⟩)
    | (go_at_call 52; refine (rnumber_out _ _ (by omega)).mono ?_; rintro e Y ⟨rfl, hb⟩; have KK := Lib.hid (KX.out.later hb); clear KX; have KX := KK; clear KK hb; obtain ⟨_, a0, a1, a2, a3, a4, a5, b0, b1, b2, b3, b4, f0, f1, f2, f3, f4⟩ := KX.out))
  exact bodyPost_ret (v := pairV 0 0 noS 1 bigS) (by simp [results, Tryz.results26, go_sem, b0, b1, b2, b3, b4]) rfl ⟨rfl, by (have hg := KX.out.below; (repeat (first | with_reducible exact hg | with_reducible refine Below.setCell ?_ (by first | (simp; done) | (simp; omega)) _)))⟩

set_option maxRecDepth 100000 in
set_option maxHeartbeats 2000000 in
theorem rb_18_zero (n : Int) (s : ByteArray) (s' : ByteArray)  : RefPost 18 1 n s 1 0 s' 0 0 noS 1 zeroS := by
  intro w
  have R := fun w => rresult_any 18 1 1 w (by decide) (by decide) (by decide)
  rw [show resI 18 1 1 = 1 from rfl] at R
  have RR := Lib.hid R
  clear R
  go_enter Tryz.func26, Tryz.ntmps26
  have KX := Lib.hid (Kept4.start w 1 n s 1 0 s')
  go_wp2_with (first
    | (go_at_call 53; refine (RR.out _).mono ?_; rintro e w' ⟨rfl, rfl⟩)
    | (go_at_call 41; refine (rthrow_any _ _).mono ?_; rintro e Y ⟨rfl, hb⟩; have KK := Lib.hid (KX.out.later hb); clear KX; have KX := KK; clear KK hb; obtain ⟨_, a0, a1, a2, a3, a4, a5, b0, b1, b2, b3, b4, f0, f1, f2, f3, f4⟩ := KX.out))
  exact bodyPost_ret (v := pairV 0 0 noS 1 zeroS) (by simp [results, Tryz.results26, go_sem, b0, b1, b2, b3, b4]) rfl ⟨rfl, by (have hg := KX.out.below; (repeat (first | with_reducible exact hg | with_reducible refine Below.setCell ?_ (by first | (simp; done) | (simp; omega)) _)))⟩

set_option maxRecDepth 100000 in
set_option maxHeartbeats 2000000 in
theorem rb_18_ok (n : Int) (s : ByteArray) (n' : Int) (s' : ByteArray) (h1 : -1000000000000 ≤ n) (h2 : n ≤ 1000000000000) (_h3 : -1000000000000 ≤ n') (_h4 : n' ≤ 1000000000000) (hn : n' ≠ 0) : RefPost 18 1 n s 1 n' s' 1 (n.tdiv n') noS 0 noS := by
  intro w
  have R := fun w => rresult_any 18 1 1 w (by decide) (by decide) (by decide)
  rw [show resI 18 1 1 = 1 from rfl] at R
  have RR := Lib.hid R
  clear R
  obtain ⟨m1, m2⟩ := tdiv_bd n n' h1 h2
  go_enter Tryz.func26, Tryz.ntmps26
  have KX := Lib.hid (Kept4.start w 1 n s 1 n' s')
  go_wp2_with (first
    | (go_at_call 53; refine (RR.out _).mono ?_; rintro e w' ⟨rfl, rfl⟩)
    | (go_at_call 52; refine (rnumber_in _ _ m1 m2).mono ?_; rintro e Y ⟨rfl, hb⟩; have KK := Lib.hid (KX.out.later hb); clear KX; have KX := KK; clear KK hb; obtain ⟨_, a0, a1, a2, a3, a4, a5, b0, b1, b2, b3, b4, f0, f1, f2, f3, f4⟩ := KX.out))
  exact bodyPost_ret (v := pairV 1 (n.tdiv n') noS 0 noS) (by simp [results, Tryz.results26, go_sem, b0, b1, b2, b3, b4]) rfl ⟨rfl, by (have hg := KX.out.below; (repeat (first | with_reducible exact hg | with_reducible refine Below.setCell ?_ (by first | (simp; done) | (simp; omega)) _)))⟩

set_option maxRecDepth 100000 in
set_option maxHeartbeats 2000000 in
theorem rb_19_zero (n : Int) (s : ByteArray) (s' : ByteArray)  : RefPost 19 1 n s 1 0 s' 0 0 noS 1 zeroS := by
  intro w
  have R := fun w => rresult_any 19 1 1 w (by decide) (by decide) (by decide)
  rw [show resI 19 1 1 = 1 from rfl] at R
  have RR := Lib.hid R
  clear R
  go_enter Tryz.func26, Tryz.ntmps26
  have KX := Lib.hid (Kept4.start w 1 n s 1 0 s')
  go_wp2_with (first
    | (go_at_call 53; refine (RR.out _).mono ?_; rintro e w' ⟨rfl, rfl⟩)
    | (go_at_call 41; refine (rthrow_any _ _).mono ?_; rintro e Y ⟨rfl, hb⟩; have KK := Lib.hid (KX.out.later hb); clear KX; have KX := KK; clear KK hb; obtain ⟨_, a0, a1, a2, a3, a4, a5, b0, b1, b2, b3, b4, f0, f1, f2, f3, f4⟩ := KX.out))
  exact bodyPost_ret (v := pairV 0 0 noS 1 zeroS) (by simp [results, Tryz.results26, go_sem, b0, b1, b2, b3, b4]) rfl ⟨rfl, by (have hg := KX.out.below; (repeat (first | with_reducible exact hg | with_reducible refine Below.setCell ?_ (by first | (simp; done) | (simp; omega)) _)))⟩

set_option maxRecDepth 100000 in
set_option maxHeartbeats 2000000 in
theorem rb_19_ok (n : Int) (s : ByteArray) (n' : Int) (s' : ByteArray) (h1 : -1000000000000 ≤ n) (h2 : n ≤ 1000000000000) (_h3 : -1000000000000 ≤ n') (_h4 : n' ≤ 1000000000000) (hn : n' ≠ 0) : RefPost 19 1 n s 1 n' s' 1 (n.tmod n') noS 0 noS := by
  intro w
  have R := fun w => rresult_any 19 1 1 w (by decide) (by decide) (by decide)
  rw [show resI 19 1 1 = 1 from rfl] at R
  have RR := Lib.hid R
  clear R
  obtain ⟨m1, m2⟩ := tmod_bd n n' h1 h2
  go_enter Tryz.func26, Tryz.ntmps26
  have KX := Lib.hid (Kept4.start w 1 n s 1 n' s')
  go_wp2_with (first
    | (go_at_call 53; refine (RR.out _).mono ?_; rintro e w' ⟨rfl, rfl⟩)
    | (go_at_call 52; refine (rnumber_in _ _ m1 m2).mono ?_; rintro e Y ⟨rfl, hb⟩; have KK := Lib.hid (KX.out.later hb); clear KX; have KX := KK; clear KK hb; obtain ⟨_, a0, a1, a2, a3, a4, a5, b0, b1, b2, b3, b4, f0, f1, f2, f3, f4⟩ := KX.out))
  exact bodyPost_ret (v := pairV 1 (n.tmod n') noS 0 noS) (by simp [results, Tryz.results26, go_sem, b0, b1, b2, b3, b4]) rfl ⟨rfl, by (have hg := KX.out.below; (repeat (first | with_reducible exact hg | with_reducible refine Below.setCell ?_ (by first | (simp; done) | (simp; omega)) _)))⟩

end Go.Proofs.YtjacdlglbjnoeaaGreatDoor
