/- Unary of the program and of the reference. -/
import Derived.Test.YtjacdlglbjnoeaaGreatDoorUnC
namespace Go.Proofs.YtjacdlglbjnoeaaGreatDoor
open Go.RowKit

/-- What Unary of the reference returns, and of the program. -/
def RefU (op k n : Int) (s : ByteArray) (rk rn : Int) (rs : ByteArray) (fk : Int) (ft : ByteArray) : Prop :=
  ∀ w, Calls Tryz.prog 24 #[.int .i64 op, valV k n s] w fun e w' => e = .returned (pairV rk rn rs fk ft) ∧ Below w.heap.size w w'
def ProgU (op k n : Int) (s : ByteArray) (rk rn : Int) (rs : ByteArray) (fk : Int) (ft : ByteArray) (e0 : Int) : Prop :=
  ∀ w, Calls Tryz.prog 20 #[.int .i64 op, valV k n s] w fun e w' => e = .returned (binR rk rn rs fk ft e0) ∧ Below w.heap.size w w'

set_option maxRecDepth 100000 in
set_option maxHeartbeats 1000000 in
theorem ru_5_kind (k n : Int) (s : ByteArray) (hk : (k == 2) = false) : RefU 5 k n s 0 0 noS 1 kindS := by
  intro w
  go_enter Tryz.func24, Tryz.ntmps24
  go_wp2_with fail
  refine (rthrow_any _ _).mono ?_
  rintro e w1 ⟨rfl, hb⟩
  obtain ⟨hg, ⟨a0, a1, a2⟩, ⟨b0, b1, b2⟩, ⟨c0, c1⟩, ⟨f0, f1, f2⟩, g0, g1⟩ := keep3R hb
  clear hb
  go_wp2
  exact bodyPost_ret (v := pairV 0 0 noS 1 kindS) (by simp [results, Tryz.results24, go_sem, b0, b1, b2, c0, c1]) rfl ⟨rfl, by (repeat (first | with_reducible exact hg | with_reducible refine Below.setCell ?_ (by first | (simp; done) | (simp; omega)) _))⟩

set_option maxRecDepth 100000 in
set_option maxHeartbeats 1000000 in
theorem ru_5_0 (s : ByteArray) : RefU 5 2 0 s 2 1 noS 0 noS := by
  intro w
  go_enter Tryz.func24, Tryz.ntmps24
  go_wp2_with fail
  refine (rtruth_any _ _).mono ?_
  rintro e w1 ⟨rfl, hb⟩
  obtain ⟨hg, ⟨a0, a1, a2⟩, ⟨b0, b1, b2⟩, ⟨c0, c1⟩, ⟨f0, f1, f2⟩, g0, g1⟩ := keep3R hb
  clear hb
  go_wp2
  exact bodyPost_ret (v := pairV 2 1 noS 0 noS) (by simp [results, Tryz.results24, go_sem, b0, b1, b2, c0, c1]) rfl ⟨rfl, by (repeat (first | with_reducible exact hg | with_reducible refine Below.setCell ?_ (by first | (simp; done) | (simp; omega)) _))⟩

set_option maxRecDepth 100000 in
set_option maxHeartbeats 1000000 in
theorem ru_5_1 (s : ByteArray) : RefU 5 2 1 s 2 0 noS 0 noS := by
  intro w
  go_enter Tryz.func24, Tryz.ntmps24
  go_wp2_with fail
  refine (rtruth_any _ _).mono ?_
  rintro e w1 ⟨rfl, hb⟩
  obtain ⟨hg, ⟨a0, a1, a2⟩, ⟨b0, b1, b2⟩, ⟨c0, c1⟩, ⟨f0, f1, f2⟩, g0, g1⟩ := keep3R hb
  clear hb
  go_wp2
  exact bodyPost_ret (v := pairV 2 0 noS 0 noS) (by simp [results, Tryz.results24, go_sem, b0, b1, b2, c0, c1]) rfl ⟨rfl, by (repeat (first | with_reducible exact hg | with_reducible refine Below.setCell ?_ (by first | (simp; done) | (simp; omega)) _))⟩

set_option maxRecDepth 100000 in
set_option maxHeartbeats 1000000 in
theorem ru_6_kind (k n : Int) (s : ByteArray) (hk : (k == 1) = false) : RefU 6 k n s 0 0 noS 1 kindS := by
  intro w
  go_enter Tryz.func24, Tryz.ntmps24
  go_wp2_with fail
  refine (rthrow_any _ _).mono ?_
  rintro e w1 ⟨rfl, hb⟩
  obtain ⟨hg, ⟨a0, a1, a2⟩, ⟨b0, b1, b2⟩, ⟨c0, c1⟩, ⟨f0, f1, f2⟩, g0, g1⟩ := keep3R hb
  clear hb
  go_wp2
  exact bodyPost_ret (v := pairV 0 0 noS 1 kindS) (by simp [results, Tryz.results24, go_sem, b0, b1, b2, c0, c1]) rfl ⟨rfl, by (repeat (first | with_reducible exact hg | with_reducible refine Below.setCell ?_ (by first | (simp; done) | (simp; omega)) _))⟩

set_option maxRecDepth 100000 in
set_option maxHeartbeats 1000000 in
theorem ru_6_ok (n : Int) (s : ByteArray) (h1 : -1000000000000 ≤ n) (h2 : n ≤ 1000000000000) : RefU 6 1 n s 1 (-n) noS 0 noS := by
  intro w
  go_enter Tryz.func24, Tryz.ntmps24
  go_wp2_with fail
  refine (rnumber_in _ _ (by omega) (by omega)).mono ?_
  rintro e w1 ⟨rfl, hb⟩
  obtain ⟨hg, ⟨a0, a1, a2⟩, ⟨b0, b1, b2⟩, ⟨c0, c1⟩, ⟨f0, f1, f2⟩, g0, g1⟩ := keep3R hb
  clear hb
  go_wp2
  exact bodyPost_ret (v := pairV 1 (-n) noS 0 noS) (by simp [results, Tryz.results24, go_sem, b0, b1, b2, c0, c1]) rfl ⟨rfl, by (repeat (first | with_reducible exact hg | with_reducible refine Below.setCell ?_ (by first | (simp; done) | (simp; omega)) _))⟩

set_option maxRecDepth 100000 in
set_option maxHeartbeats 1600000 in
theorem un_5 (k n : Int) (s : ByteArray) (rk rn : Int) (rs : ByteArray) (fk : Int) (ft : ByteArray) (h1 : validB k n s = true) (hs : s.size ≤ 9223372036854775807) (HC : Hid (∀ w, Calls Tryz.prog 77 #[valV k n s] w fun e w' => e = .returned (outV rk rn rs fk ft) ∧ Below w.heap.size w w')) : ProgU 5 k n s rk rn rs fk ft 0 := by
  intro w
  have V1 := fun w => wrong_any k n s w hs
  rw [h1] at V1
  have W1 := Lib.hid V1
  clear V1 h1
  go_enter Tryz.func20, Tryz.ntmps20
  go_wp2_with fail
  refine (unaries_any _).mono ?_
  rintro e w1 ⟨bm, rfl, H⟩
  obtain ⟨hg, ⟨a0, a1, a2⟩, ⟨b0, b1, b2⟩, ⟨c0, c1⟩, ⟨f0, f1, f2⟩, g0, g1⟩ := keep3R H.below
  go_wp2_with (first | (at_lookup; refine wpList_lookup_held _ rfl _ _ 86 rfl 3 84 key3 Tryz.underlying86 (Tryz.zeroValue84 _) bm 2 _ rfl H.owns _ _ rfl (keyI 5 (by decide)) (fnV 77) true rfl rfl ?_) | fail)
  refine (W1.out _).mono ?_
  rintro e w2 ⟨rfl, hb2⟩
  have hg2 := then2 hg hb2
  replace f0 := frz hb2 b0 f0
  replace f1 := frz hb2 b1 f1
  replace f2 := frz hb2 b2 f2
  replace g0 := frz hb2 c0 g0
  replace g1 := frz hb2 c1 g1
  replace a0 := cell_of hb2 a0
  replace a1 := cell_of hb2 a1
  replace a2 := cell_of hb2 a2
  replace b0 := cell_of hb2 b0
  replace b1 := cell_of hb2 b1
  replace b2 := cell_of hb2 b2
  replace c0 := cell_of hb2 c0
  replace c1 := cell_of hb2 c1
  clear hb2 H
  go_wp2_with fail
  refine (HC.out _).mono ?_
  rintro e w3 ⟨rfl, hb3⟩
  have hg3 := then2 hg2 hb3
  replace f0 := frz hb3 b0 f0
  replace f1 := frz hb3 b1 f1
  replace f2 := frz hb3 b2 f2
  replace g0 := frz hb3 c0 g0
  replace g1 := frz hb3 c1 g1
  replace a0 := cell_of hb3 a0
  replace a1 := cell_of hb3 a1
  replace a2 := cell_of hb3 a2
  replace b0 := cell_of hb3 b0
  replace b1 := cell_of hb3 b1
  replace b2 := cell_of hb3 b2
  replace c0 := cell_of hb3 c0
  replace c1 := cell_of hb3 c1
  have y1 : w.heap.size + 1 < w3.heap.size := World.block_lt_of_cell? _ _ b0
  have y2 : w.heap.size + 1 + 1 < w3.heap.size := World.block_lt_of_cell? _ _ c0
  clear hb3
  go_wp2_with fail
  go_region
  all_goals go_wp2
  all_goals
    exact bodyPost_ret (v := binR rk rn rs fk ft 0) (by simp [results, Tryz.results20, go_sem, b0, b1, b2, c0, c1, y1, y2]) rfl ⟨rfl, by (repeat (first | with_reducible exact hg3 | with_reducible refine Below.drew ?_ | with_reducible refine Below.setCell ?_ (by first | (simp; done) | (simp; omega)) _ | with_reducible refine Below.alloc ?_ (by have := hg3.size; first | omega | (simp; omega)) _))⟩

set_option maxRecDepth 100000 in
set_option maxHeartbeats 1600000 in
theorem un_6 (k n : Int) (s : ByteArray) (rk rn : Int) (rs : ByteArray) (fk : Int) (ft : ByteArray) (h1 : validB k n s = true) (hs : s.size ≤ 9223372036854775807) (HC : Hid (∀ w, Calls Tryz.prog 80 #[valV k n s] w fun e w' => e = .returned (outV rk rn rs fk ft) ∧ Below w.heap.size w w')) : ProgU 6 k n s rk rn rs fk ft 0 := by
  intro w
  have V1 := fun w => wrong_any k n s w hs
  rw [h1] at V1
  have W1 := Lib.hid V1
  clear V1 h1
  go_enter Tryz.func20, Tryz.ntmps20
  go_wp2_with fail
  refine (unaries_any _).mono ?_
  rintro e w1 ⟨bm, rfl, H⟩
  obtain ⟨hg, ⟨a0, a1, a2⟩, ⟨b0, b1, b2⟩, ⟨c0, c1⟩, ⟨f0, f1, f2⟩, g0, g1⟩ := keep3R H.below
  go_wp2_with (first | (at_lookup; refine wpList_lookup_held _ rfl _ _ 86 rfl 3 84 key3 Tryz.underlying86 (Tryz.zeroValue84 _) bm 2 _ rfl H.owns _ _ rfl (keyI 6 (by decide)) (fnV 80) true rfl rfl ?_) | fail)
  refine (W1.out _).mono ?_
  rintro e w2 ⟨rfl, hb2⟩
  have hg2 := then2 hg hb2
  replace f0 := frz hb2 b0 f0
  replace f1 := frz hb2 b1 f1
  replace f2 := frz hb2 b2 f2
  replace g0 := frz hb2 c0 g0
  replace g1 := frz hb2 c1 g1
  replace a0 := cell_of hb2 a0
  replace a1 := cell_of hb2 a1
  replace a2 := cell_of hb2 a2
  replace b0 := cell_of hb2 b0
  replace b1 := cell_of hb2 b1
  replace b2 := cell_of hb2 b2
  replace c0 := cell_of hb2 c0
  replace c1 := cell_of hb2 c1
  clear hb2 H
  go_wp2_with fail
  refine (HC.out _).mono ?_
  rintro e w3 ⟨rfl, hb3⟩
  have hg3 := then2 hg2 hb3
  replace f0 := frz hb3 b0 f0
  replace f1 := frz hb3 b1 f1
  replace f2 := frz hb3 b2 f2
  replace g0 := frz hb3 c0 g0
  replace g1 := frz hb3 c1 g1
  replace a0 := cell_of hb3 a0
  replace a1 := cell_of hb3 a1
  replace a2 := cell_of hb3 a2
  replace b0 := cell_of hb3 b0
  replace b1 := cell_of hb3 b1
  replace b2 := cell_of hb3 b2
  replace c0 := cell_of hb3 c0
  replace c1 := cell_of hb3 c1
  have y1 : w.heap.size + 1 < w3.heap.size := World.block_lt_of_cell? _ _ b0
  have y2 : w.heap.size + 1 + 1 < w3.heap.size := World.block_lt_of_cell? _ _ c0
  clear hb3
  go_wp2_with fail
  go_region
  all_goals go_wp2
  all_goals
    exact bodyPost_ret (v := binR rk rn rs fk ft 0) (by simp [results, Tryz.results20, go_sem, b0, b1, b2, c0, c1, y1, y2]) rfl ⟨rfl, by (repeat (first | with_reducible exact hg3 | with_reducible refine Below.drew ?_ | with_reducible refine Below.setCell ?_ (by first | (simp; done) | (simp; omega)) _ | with_reducible refine Below.alloc ?_ (by have := hg3.size; first | omega | (simp; omega)) _))⟩

set_option maxRecDepth 100000 in
set_option maxHeartbeats 1600000 in
theorem un_none (op k n : Int) (s : ByteArray) (hwf : (Lit.int .i64 op).wf = true) (hop : op ≠ 5 ∧ op ≠ 6) : ProgU op k n s 0 0 noS 0 noS 2 := by
  intro w
  have HOP := Lib.hid hop
  have HWF := Lib.hid hwf
  clear hop hwf
  go_enter Tryz.func20, Tryz.ntmps20
  go_wp2_with fail
  refine (unaries_any _).mono ?_
  rintro e w1 ⟨bm, rfl, H⟩
  obtain ⟨hg, ⟨a0, a1, a2⟩, ⟨b0, b1, b2⟩, ⟨c0, c1⟩, ⟨f0, f1, f2⟩, g0, g1⟩ := keep3R H.below
  obtain ⟨v, _, hv, _⟩ := H.held2 (.int .i64 op) .nilFunc
  have HV := Lib.hid hv
  clear hv
  go_wp2_with (first | (at_lookup; refine wpList_lookup_held _ rfl _ _ 86 rfl 3 84 key3 Tryz.underlying86 (Tryz.zeroValue84 _) bm 2 _ rfl H.owns _ _ rfl (keyI op HWF.out) v false HV.out (by have := HOP.out; simp [Maps.has, Lit.sameKey]; omega) ?_) | fail)
  exact bodyPost_ret (v := binR 0 0 noS 0 noS 2) (by simp [results, Tryz.results20, go_sem, b0, b1, b2, c0, c1]) rfl ⟨rfl, by (repeat (first | with_reducible exact hg | with_reducible refine Below.drew ?_ | with_reducible refine Below.setCell ?_ (by first | (simp; done) | (simp; omega)) _ | with_reducible refine Below.alloc ?_ (by have := hg.size; first | omega | (simp; omega)) _))⟩

set_option maxRecDepth 100000 in
set_option maxHeartbeats 1600000 in
theorem un_bad (op k n : Int) (s : ByteArray) (hwf : (Lit.int .i64 op).wf = true) (h1 : validB k n s = false) (hs : s.size ≤ 9223372036854775807) : ProgU op k n s 0 0 noS 0 noS 2 := by
  intro w
  have V1 := fun w => wrong_any k n s w hs
  rw [h1] at V1
  have W1 := Lib.hid V1
  have HWF := Lib.hid hwf
  clear V1 h1 hwf
  go_enter Tryz.func20, Tryz.ntmps20
  go_wp2_with fail
  refine (unaries_any _).mono ?_
  rintro e w1 ⟨bm, rfl, H⟩
  obtain ⟨hg, ⟨a0, a1, a2⟩, ⟨b0, b1, b2⟩, ⟨c0, c1⟩, ⟨f0, f1, f2⟩, g0, g1⟩ := keep3R H.below
  obtain ⟨v, c, hv, hcc⟩ := H.held2 (.int .i64 op) .nilFunc
  have HV := Lib.hid hv
  have HC := Lib.hid hcc
  clear hv hcc
  cases c
  · go_wp2_with (first | (at_lookup; refine wpList_lookup_held _ rfl _ _ 86 rfl 3 84 key3 Tryz.underlying86 (Tryz.zeroValue84 _) bm 2 _ rfl H.owns _ _ rfl (keyI op HWF.out) v false HV.out HC.out ?_) | fail)
    exact bodyPost_ret (v := binR 0 0 noS 0 noS 2) (by simp [results, Tryz.results20, go_sem, b0, b1, b2, c0, c1]) rfl ⟨rfl, by (repeat (first | with_reducible exact hg | with_reducible refine Below.drew ?_ | with_reducible refine Below.setCell ?_ (by first | (simp; done) | (simp; omega)) _ | with_reducible refine Below.alloc ?_ (by have := hg.size; first | omega | (simp; omega)) _))⟩
  · go_wp2_with (first | (at_lookup; refine wpList_lookup_held _ rfl _ _ 86 rfl 3 84 key3 Tryz.underlying86 (Tryz.zeroValue84 _) bm 2 _ rfl H.owns _ _ rfl (keyI op HWF.out) v true HV.out HC.out ?_) | fail)
    refine (W1.out _).mono ?_
    rintro e w2 ⟨rfl, hb2⟩
    have hg2 := then2 hg hb2
    replace f0 := frz hb2 b0 f0
    replace f1 := frz hb2 b1 f1
    replace f2 := frz hb2 b2 f2
    replace g0 := frz hb2 c0 g0
    replace g1 := frz hb2 c1 g1
    replace a0 := cell_of hb2 a0
    replace a1 := cell_of hb2 a1
    replace a2 := cell_of hb2 a2
    replace b0 := cell_of hb2 b0
    replace b1 := cell_of hb2 b1
    replace b2 := cell_of hb2 b2
    replace c0 := cell_of hb2 c0
    replace c1 := cell_of hb2 c1
    clear hb2 H
    go_wp2_with fail
    exact bodyPost_ret (v := binR 0 0 noS 0 noS 2) (by simp [results, Tryz.results20, go_sem, b0, b1, b2, c0, c1]) rfl ⟨rfl, by (repeat (first | with_reducible exact hg2 | with_reducible refine Below.drew ?_ | with_reducible refine Below.setCell ?_ (by first | (simp; done) | (simp; omega)) _ | with_reducible refine Below.alloc ?_ (by have := hg2.size; first | omega | (simp; omega)) _))⟩

/-- Both return the same. -/
def BothU (op k n : Int) (s : ByteArray) : Prop := ∃ rk rn rs fk ft, ProgU op k n s rk rn rs fk ft 0 ∧ RefU op k n s rk rn rs fk ft
end Go.Proofs.YtjacdlglbjnoeaaGreatDoor
