/- EvalOperators returns true for all inputs. -/
import Derived.Test.YtjacdlglbjnoeaaGreatDoorUnW
import Derived.Test.YtjacdlglbjnoeaaGreatDoorBothBin
import Derived.Test.YtjacdlglbjnoeaaGreatDoorBinBad
import Derived.Test.YtjacdlglbjnoeaaGreatDoorKValid
import Derived.Test.YtjacdlglbjnoeaaGreatDoorLawOrders
namespace Go.Proofs.YtjacdlglbjnoeaaGreatDoor
open Go.RowKit

theorem isU_any (op : Int) (w : World) : Calls Tryz.prog 22 #[.int .i64 op] w fun e w' => e = .returned (.bool (op == 5 || op == 6)) ∧ w = w' := by
  by_cases h5 : op = 5
  · subst h5
    go_enter Tryz.func22, Tryz.ntmps22
    go_wp2
    go_ret
    exact ⟨rfl, rfl⟩
  · have e5 : (op == 5) = false := by simpa using h5
    rw [e5]
    go_enter Tryz.func22, Tryz.ntmps22
    go_wp2
    go_ret
    exact ⟨ret_bool (by simp), rfl⟩
theorem isB_any (op : Int) (w : World) : Calls Tryz.prog 25 #[.int .i64 op] w fun e w' => e = .returned (.bool (decide (7 ≤ op) && decide (op ≤ 19))) ∧ w = w' := by
  by_cases h7 : 7 ≤ op
  · by_cases h19 : op ≤ 19
    · go_enter Tryz.func25, Tryz.ntmps25
      go_wp2
      go_ret
      exact ⟨ret_bool (by simp [h7, h19]), rfl⟩
    · go_enter Tryz.func25, Tryz.ntmps25
      go_wp2
      go_ret
      exact ⟨ret_bool (by simp [h19]), rfl⟩
  · go_enter Tryz.func25, Tryz.ntmps25
    go_wp2
    go_ret
    exact ⟨ret_bool (by first | (simp []; done) | (simp []; omega) | (simp; omega)), rfl⟩

def KVal (k n : Int) (s : ByteArray) (r : Bool) : Prop := ∀ w, Calls Tryz.prog 23 #[valV k n s] w (BPost r w)
def IsU (op : Int) (r : Bool) : Prop := ∀ w, Calls Tryz.prog 22 #[.int .i64 op] w fun e w' => e = .returned (.bool r) ∧ w = w'
def IsB (op : Int) (r : Bool) : Prop := ∀ w, Calls Tryz.prog 25 #[.int .i64 op] w fun e w' => e = .returned (.bool r) ∧ w = w'
def ProgB (op k n : Int) (s : ByteArray) (k' n' : Int) (s' : ByteArray) (rk rn : Int) (rs : ByteArray) (fk : Int) (ft : ByteArray) (e0 : Int) : Prop :=
  ∀ w, Calls Tryz.prog 21 #[.int .i64 op, valV k n s, valV k' n' s'] w fun e w' => e = .returned (binR rk rn rs fk ft e0) ∧ Below w.heap.size w w'

set_option maxRecDepth 100000 in
set_option maxHeartbeats 4000000 in
theorem law4_none (op k n : Int) (s : ByteArray) (k' n' : Int) (s' : ByteArray) (w : World) (hh : Hid (Hand w)) (HU : Hid (ProgU op k n s 0 0 noS 0 noS 2)) (HP : Hid (ProgB op k n s k' n' s' 0 0 noS 0 noS 2)) (HI : Hid (IsU op false)) (HJ : Hid (IsB op false)) :
    Calls Tryz.prog 4 #[.int .i64 op, valV k n s, valV k' n' s'] w fun e w' => e = .returned (.bool true) ∧ Below w.heap.size w w' := by
  go_enter Tryz.func4, Tryz.ntmps4
  go_wp2_with fail
  refine (HU.out _).mono ?_
  rintro e w1 ⟨rfl, hb1⟩
  obtain ⟨g1, p0, p1, A0, A1, A2, A3, A4, A5⟩ := keep2V hb1
  have HB := Lib.hid g1
  clear g1 hb1 p0 p1
  have y0 : w.heap.size < w1.heap.size := World.block_lt_of_cell? _ _ A0
  have y1 : w.heap.size + 1 < w1.heap.size := World.block_lt_of_cell? _ _ A3
  go_wp2_with fail
  refine (HP.out _).mono ?_
  rintro e w2 ⟨rfl, hb2⟩
  obtain ⟨g2, p0, p1, B0, B1, B2, B3, B4⟩ := keepV hb2
  have HB' := Lib.hid (then2 HB.out g2)
  clear HB
  have HB := HB'
  clear HB'
  replace A0 := cell_of g2 A0
  replace A1 := cell_of g2 A1
  replace A2 := cell_of g2 A2
  replace A3 := cell_of g2 A3
  replace A4 := cell_of g2 A4
  replace A5 := cell_of g2 A5
  clear g2 hb2 p0 p1
  clear y0
  have y0 : w.heap.size < w2.heap.size := World.block_lt_of_cell? _ _ A0
  clear y1
  have y1 : w.heap.size + 1 < w2.heap.size := World.block_lt_of_cell? _ _ A3
  have y2 : w1.heap.size < w2.heap.size := World.block_lt_of_cell? _ _ B0
  have y3 : w1.heap.size + 1 < w2.heap.size := World.block_lt_of_cell? _ _ B3
  go_wp2_with fail
  refine (HI.out _).mono ?_
  rintro e w' ⟨rfl, rfl⟩
  go_wp2_with fail
  refine (HJ.out _).mono ?_
  rintro e w' ⟨rfl, rfl⟩
  go_wp2_with fail
  have HY : Hid (∀ A B, Below w.heap.size w ((w2.alloc A).alloc B)) := Lib.hid fun A B => (HB.out.alloc HB.out.size A).alloc (by have := HB.out.size; simp; omega) B
  refine (awake_any _ (hh.out.below (HY.out _ _))).mono ?_
  rintro e v9 ⟨rfl, h9⟩
  go_wp2
  go_ret
  exact ⟨rfl, then2 (HY.out _ _) h9⟩

set_option maxRecDepth 100000 in
set_option maxHeartbeats 4000000 in
theorem law4_left (op k n : Int) (s : ByteArray) (k' n' : Int) (s' : ByteArray) (w : World) (hh : Hid (Hand w)) (HU : Hid (ProgU op k n s 0 0 noS 0 noS 2)) (HP : Hid (ProgB op k n s k' n' s' 0 0 noS 0 noS 2)) (HI : Hid (IsU op false)) (HJ : Hid (IsB op true)) (HV : Hid (KVal k n s false)) :
    Calls Tryz.prog 4 #[.int .i64 op, valV k n s, valV k' n' s'] w fun e w' => e = .returned (.bool true) ∧ Below w.heap.size w w' := by
  go_enter Tryz.func4, Tryz.ntmps4
  go_wp2_with fail
  refine (HU.out _).mono ?_
  rintro e w1 ⟨rfl, hb1⟩
  obtain ⟨g1, p0, p1, A0, A1, A2, A3, A4, A5⟩ := keep2V hb1
  have HB := Lib.hid g1
  clear g1 hb1 p0 p1
  have y0 : w.heap.size < w1.heap.size := World.block_lt_of_cell? _ _ A0
  have y1 : w.heap.size + 1 < w1.heap.size := World.block_lt_of_cell? _ _ A3
  go_wp2_with fail
  refine (HP.out _).mono ?_
  rintro e w2 ⟨rfl, hb2⟩
  obtain ⟨g2, p0, p1, B0, B1, B2, B3, B4⟩ := keepV hb2
  have HB' := Lib.hid (then2 HB.out g2)
  clear HB
  have HB := HB'
  clear HB'
  replace A0 := cell_of g2 A0
  replace A1 := cell_of g2 A1
  replace A2 := cell_of g2 A2
  replace A3 := cell_of g2 A3
  replace A4 := cell_of g2 A4
  replace A5 := cell_of g2 A5
  clear g2 hb2 p0 p1
  clear y0
  have y0 : w.heap.size < w2.heap.size := World.block_lt_of_cell? _ _ A0
  clear y1
  have y1 : w.heap.size + 1 < w2.heap.size := World.block_lt_of_cell? _ _ A3
  have y2 : w1.heap.size < w2.heap.size := World.block_lt_of_cell? _ _ B0
  have y3 : w1.heap.size + 1 < w2.heap.size := World.block_lt_of_cell? _ _ B3
  go_wp2_with fail
  refine (HI.out _).mono ?_
  rintro e w' ⟨rfl, rfl⟩
  go_wp2_with fail
  refine (HJ.out _).mono ?_
  rintro e w' ⟨rfl, rfl⟩
  go_wp2_with fail
  refine (HV.out _).mono ?_
  rintro e w3 ⟨rfl, hb3⟩
  obtain ⟨g3, p0, p1, C0, C1, C2, C3, C4⟩ := keepV hb3
  have HB' := Lib.hid (then2 HB.out g3)
  clear HB
  have HB := HB'
  clear HB'
  replace A0 := cell_of g3 A0
  replace A1 := cell_of g3 A1
  replace A2 := cell_of g3 A2
  replace A3 := cell_of g3 A3
  replace A4 := cell_of g3 A4
  replace A5 := cell_of g3 A5
  replace B0 := cell_of g3 B0
  replace B1 := cell_of g3 B1
  replace B2 := cell_of g3 B2
  replace B3 := cell_of g3 B3
  replace B4 := cell_of g3 B4
  clear g3 hb3 p0 p1
  clear y0
  have y0 : w.heap.size < w3.heap.size := World.block_lt_of_cell? _ _ A0
  clear y1
  have y1 : w.heap.size + 1 < w3.heap.size := World.block_lt_of_cell? _ _ A3
  clear y2
  have y2 : w1.heap.size < w3.heap.size := World.block_lt_of_cell? _ _ B0
  clear y3
  have y3 : w1.heap.size + 1 < w3.heap.size := World.block_lt_of_cell? _ _ B3
  have y4 : w2.heap.size < w3.heap.size := World.block_lt_of_cell? _ _ C0
  have y5 : w2.heap.size + 1 < w3.heap.size := World.block_lt_of_cell? _ _ C3
  go_wp2_with fail
  refine (awake_any _ (hh.out.below HB.out)).mono ?_
  rintro e v9 ⟨rfl, h9⟩
  go_wp2
  go_ret
  exact ⟨rfl, then2 HB.out h9⟩

set_option maxRecDepth 100000 in
set_option maxHeartbeats 4000000 in
theorem law4_right (op k n : Int) (s : ByteArray) (k' n' : Int) (s' : ByteArray) (w : World) (hh : Hid (Hand w)) (HU : Hid (ProgU op k n s 0 0 noS 0 noS 2)) (HP : Hid (ProgB op k n s k' n' s' 0 0 noS 0 noS 2)) (HI : Hid (IsU op false)) (HJ : Hid (IsB op true)) (HV : Hid (KVal k n s true)) (HW : Hid (KVal k' n' s' false)) :
    Calls Tryz.prog 4 #[.int .i64 op, valV k n s, valV k' n' s'] w fun e w' => e = .returned (.bool true) ∧ Below w.heap.size w w' := by
  go_enter Tryz.func4, Tryz.ntmps4
  go_wp2_with fail
  refine (HU.out _).mono ?_
  rintro e w1 ⟨rfl, hb1⟩
  obtain ⟨g1, p0, p1, A0, A1, A2, A3, A4, A5⟩ := keep2V hb1
  have HB := Lib.hid g1
  clear g1 hb1 p0 p1
  have y0 : w.heap.size < w1.heap.size := World.block_lt_of_cell? _ _ A0
  have y1 : w.heap.size + 1 < w1.heap.size := World.block_lt_of_cell? _ _ A3
  go_wp2_with fail
  refine (HP.out _).mono ?_
  rintro e w2 ⟨rfl, hb2⟩
  obtain ⟨g2, p0, p1, B0, B1, B2, B3, B4⟩ := keepV hb2
  have HB' := Lib.hid (then2 HB.out g2)
  clear HB
  have HB := HB'
  clear HB'
  replace A0 := cell_of g2 A0
  replace A1 := cell_of g2 A1
  replace A2 := cell_of g2 A2
  replace A3 := cell_of g2 A3
  replace A4 := cell_of g2 A4
  replace A5 := cell_of g2 A5
  clear g2 hb2 p0 p1
  clear y0
  have y0 : w.heap.size < w2.heap.size := World.block_lt_of_cell? _ _ A0
  clear y1
  have y1 : w.heap.size + 1 < w2.heap.size := World.block_lt_of_cell? _ _ A3
  have y2 : w1.heap.size < w2.heap.size := World.block_lt_of_cell? _ _ B0
  have y3 : w1.heap.size + 1 < w2.heap.size := World.block_lt_of_cell? _ _ B3
  go_wp2_with fail
  refine (HI.out _).mono ?_
  rintro e w' ⟨rfl, rfl⟩
  go_wp2_with fail
  refine (HJ.out _).mono ?_
  rintro e w' ⟨rfl, rfl⟩
  go_wp2_with fail
  refine (HV.out _).mono ?_
  rintro e w3 ⟨rfl, hb3⟩
  obtain ⟨g3, p0, p1, C0, C1, C2, C3, C4⟩ := keepV hb3
  have HB' := Lib.hid (then2 HB.out g3)
  clear HB
  have HB := HB'
  clear HB'
  replace A0 := cell_of g3 A0
  replace A1 := cell_of g3 A1
  replace A2 := cell_of g3 A2
  replace A3 := cell_of g3 A3
  replace A4 := cell_of g3 A4
  replace A5 := cell_of g3 A5
  replace B0 := cell_of g3 B0
  replace B1 := cell_of g3 B1
  replace B2 := cell_of g3 B2
  replace B3 := cell_of g3 B3
  replace B4 := cell_of g3 B4
  clear g3 hb3 p0 p1
  clear y0
  have y0 : w.heap.size < w3.heap.size := World.block_lt_of_cell? _ _ A0
  clear y1
  have y1 : w.heap.size + 1 < w3.heap.size := World.block_lt_of_cell? _ _ A3
  clear y2
  have y2 : w1.heap.size < w3.heap.size := World.block_lt_of_cell? _ _ B0
  clear y3
  have y3 : w1.heap.size + 1 < w3.heap.size := World.block_lt_of_cell? _ _ B3
  have y4 : w2.heap.size < w3.heap.size := World.block_lt_of_cell? _ _ C0
  have y5 : w2.heap.size + 1 < w3.heap.size := World.block_lt_of_cell? _ _ C3
  go_wp2_with fail
  refine (HW.out _).mono ?_
  rintro e w4 ⟨rfl, hb4⟩
  have HB' := Lib.hid (then2 HB.out hb4)
  clear HB
  have HB := HB'
  clear HB'
  replace A0 := cell_of hb4 A0
  replace A1 := cell_of hb4 A1
  replace A2 := cell_of hb4 A2
  replace A3 := cell_of hb4 A3
  replace A4 := cell_of hb4 A4
  replace A5 := cell_of hb4 A5
  replace B0 := cell_of hb4 B0
  replace B1 := cell_of hb4 B1
  replace B2 := cell_of hb4 B2
  replace B3 := cell_of hb4 B3
  replace B4 := cell_of hb4 B4
  replace C0 := cell_of hb4 C0
  replace C1 := cell_of hb4 C1
  replace C2 := cell_of hb4 C2
  replace C3 := cell_of hb4 C3
  replace C4 := cell_of hb4 C4
  clear hb4
  clear y0
  have y0 : w.heap.size < w4.heap.size := World.block_lt_of_cell? _ _ A0
  clear y1
  have y1 : w.heap.size + 1 < w4.heap.size := World.block_lt_of_cell? _ _ A3
  clear y2
  have y2 : w1.heap.size < w4.heap.size := World.block_lt_of_cell? _ _ B0
  clear y3
  have y3 : w1.heap.size + 1 < w4.heap.size := World.block_lt_of_cell? _ _ B3
  clear y4
  have y4 : w2.heap.size < w4.heap.size := World.block_lt_of_cell? _ _ C0
  clear y5
  have y5 : w2.heap.size + 1 < w4.heap.size := World.block_lt_of_cell? _ _ C3
  go_wp2_with fail
  refine (awake_any _ (hh.out.below HB.out)).mono ?_
  rintro e v9 ⟨rfl, h9⟩
  go_wp2
  go_ret
  exact ⟨rfl, then2 HB.out h9⟩

set_option maxRecDepth 100000 in
set_option maxHeartbeats 4000000 in
theorem law4_ubad (op k n : Int) (s : ByteArray) (k' n' : Int) (s' : ByteArray) (w : World) (hh : Hid (Hand w)) (HU : Hid (ProgU op k n s 0 0 noS 0 noS 2)) (HP : Hid (ProgB op k n s k' n' s' 0 0 noS 0 noS 2)) (HI : Hid (IsU op true)) (HJ : Hid (IsB op false)) (HV : Hid (KVal k n s false)) :
    Calls Tryz.prog 4 #[.int .i64 op, valV k n s, valV k' n' s'] w fun e w' => e = .returned (.bool true) ∧ Below w.heap.size w w' := by
  go_enter Tryz.func4, Tryz.ntmps4
  go_wp2_with fail
  refine (HU.out _).mono ?_
  rintro e w1 ⟨rfl, hb1⟩
  obtain ⟨g1, p0, p1, A0, A1, A2, A3, A4, A5⟩ := keep2V hb1
  have HB := Lib.hid g1
  clear g1 hb1 p0 p1
  have y0 : w.heap.size < w1.heap.size := World.block_lt_of_cell? _ _ A0
  have y1 : w.heap.size + 1 < w1.heap.size := World.block_lt_of_cell? _ _ A3
  go_wp2_with fail
  refine (HP.out _).mono ?_
  rintro e w2 ⟨rfl, hb2⟩
  obtain ⟨g2, p0, p1, B0, B1, B2, B3, B4⟩ := keepV hb2
  have HB' := Lib.hid (then2 HB.out g2)
  clear HB
  have HB := HB'
  clear HB'
  replace A0 := cell_of g2 A0
  replace A1 := cell_of g2 A1
  replace A2 := cell_of g2 A2
  replace A3 := cell_of g2 A3
  replace A4 := cell_of g2 A4
  replace A5 := cell_of g2 A5
  clear g2 hb2 p0 p1
  clear y0
  have y0 : w.heap.size < w2.heap.size := World.block_lt_of_cell? _ _ A0
  clear y1
  have y1 : w.heap.size + 1 < w2.heap.size := World.block_lt_of_cell? _ _ A3
  have y2 : w1.heap.size < w2.heap.size := World.block_lt_of_cell? _ _ B0
  have y3 : w1.heap.size + 1 < w2.heap.size := World.block_lt_of_cell? _ _ B3
  go_wp2_with fail
  refine (HI.out _).mono ?_
  rintro e w' ⟨rfl, rfl⟩
  go_wp2_with fail
  refine (HV.out _).mono ?_
  rintro e w3 ⟨rfl, hb3⟩
  obtain ⟨g3, p0, p1, C0, C1, C2, C3, C4⟩ := keepV hb3
  have HB' := Lib.hid (then2 HB.out g3)
  clear HB
  have HB := HB'
  clear HB'
  replace A0 := cell_of g3 A0
  replace A1 := cell_of g3 A1
  replace A2 := cell_of g3 A2
  replace A3 := cell_of g3 A3
  replace A4 := cell_of g3 A4
  replace A5 := cell_of g3 A5
  replace B0 := cell_of g3 B0
  replace B1 := cell_of g3 B1
  replace B2 := cell_of g3 B2
  replace B3 := cell_of g3 B3
  replace B4 := cell_of g3 B4
  clear g3 hb3 p0 p1
  clear y0
  have y0 : w.heap.size < w3.heap.size := World.block_lt_of_cell? _ _ A0
  clear y1
  have y1 : w.heap.size + 1 < w3.heap.size := World.block_lt_of_cell? _ _ A3
  clear y2
  have y2 : w1.heap.size < w3.heap.size := World.block_lt_of_cell? _ _ B0
  clear y3
  have y3 : w1.heap.size + 1 < w3.heap.size := World.block_lt_of_cell? _ _ B3
  have y4 : w2.heap.size < w3.heap.size := World.block_lt_of_cell? _ _ C0
  have y5 : w2.heap.size + 1 < w3.heap.size := World.block_lt_of_cell? _ _ C3
  go_wp2_with fail
  refine (HJ.out _).mono ?_
  rintro e w' ⟨rfl, rfl⟩
  go_wp2_with fail
  refine (awake_any _ (hh.out.below HB.out)).mono ?_
  rintro e v9 ⟨rfl, h9⟩
  go_wp2
  go_ret
  exact ⟨rfl, then2 HB.out h9⟩

set_option maxRecDepth 100000 in
set_option maxHeartbeats 4000000 in
theorem law4_uok (op k n : Int) (s : ByteArray) (k' n' : Int) (s' : ByteArray) (uk un : Int) (us : ByteArray) (ufk : Int) (uft : ByteArray) (w : World) (hh : Hid (Hand w)) (HU : Hid (ProgU op k n s uk un us ufk uft 0)) (HP : Hid (ProgB op k n s k' n' s' 0 0 noS 0 noS 2)) (HI : Hid (IsU op true)) (HJ : Hid (IsB op false)) (HV : Hid (KVal k n s true)) (HR : Hid (RefU op k n s uk un us ufk uft)) :
    Calls Tryz.prog 4 #[.int .i64 op, valV k n s, valV k' n' s'] w fun e w' => e = .returned (.bool true) ∧ Below w.heap.size w w' := by
  go_enter Tryz.func4, Tryz.ntmps4
  go_wp2_with fail
  refine (HU.out _).mono ?_
  rintro e w1 ⟨rfl, hb1⟩
  obtain ⟨g1, p0, p1, A0, A1, A2, A3, A4, A5⟩ := keep2V hb1
  have HB := Lib.hid g1
  clear g1 hb1 p0 p1
  have y0 : w.heap.size < w1.heap.size := World.block_lt_of_cell? _ _ A0
  have y1 : w.heap.size + 1 < w1.heap.size := World.block_lt_of_cell? _ _ A3
  go_wp2_with fail
  refine (HP.out _).mono ?_
  rintro e w2 ⟨rfl, hb2⟩
  obtain ⟨g2, p0, p1, B0, B1, B2, B3, B4⟩ := keepV hb2
  have HB' := Lib.hid (then2 HB.out g2)
  clear HB
  have HB := HB'
  clear HB'
  replace A0 := cell_of g2 A0
  replace A1 := cell_of g2 A1
  replace A2 := cell_of g2 A2
  replace A3 := cell_of g2 A3
  replace A4 := cell_of g2 A4
  replace A5 := cell_of g2 A5
  clear g2 hb2 p0 p1
  clear y0
  have y0 : w.heap.size < w2.heap.size := World.block_lt_of_cell? _ _ A0
  clear y1
  have y1 : w.heap.size + 1 < w2.heap.size := World.block_lt_of_cell? _ _ A3
  have y2 : w1.heap.size < w2.heap.size := World.block_lt_of_cell? _ _ B0
  have y3 : w1.heap.size + 1 < w2.heap.size := World.block_lt_of_cell? _ _ B3
  go_wp2_with fail
  refine (HI.out _).mono ?_
  rintro e w' ⟨rfl, rfl⟩
  go_wp2_with fail
  refine (HV.out _).mono ?_
  rintro e w3 ⟨rfl, hb3⟩
  obtain ⟨g3, p0, p1, C0, C1, C2, C3, C4⟩ := keepV hb3
  have HB' := Lib.hid (then2 HB.out g3)
  clear HB
  have HB := HB'
  clear HB'
  replace A0 := cell_of g3 A0
  replace A1 := cell_of g3 A1
  replace A2 := cell_of g3 A2
  replace A3 := cell_of g3 A3
  replace A4 := cell_of g3 A4
  replace A5 := cell_of g3 A5
  replace B0 := cell_of g3 B0
  replace B1 := cell_of g3 B1
  replace B2 := cell_of g3 B2
  replace B3 := cell_of g3 B3
  replace B4 := cell_of g3 B4
  clear g3 hb3 p0 p1
  clear y0
  have y0 : w.heap.size < w3.heap.size := World.block_lt_of_cell? _ _ A0
  clear y1
  have y1 : w.heap.size + 1 < w3.heap.size := World.block_lt_of_cell? _ _ A3
  clear y2
  have y2 : w1.heap.size < w3.heap.size := World.block_lt_of_cell? _ _ B0
  clear y3
  have y3 : w1.heap.size + 1 < w3.heap.size := World.block_lt_of_cell? _ _ B3
  have y4 : w2.heap.size < w3.heap.size := World.block_lt_of_cell? _ _ C0
  have y5 : w2.heap.size + 1 < w3.heap.size := World.block_lt_of_cell? _ _ C3
  go_wp2_with fail
  refine (HR.out _).mono ?_
  rintro e w4 ⟨rfl, hb4⟩
  have HB' := Lib.hid (then2 HB.out hb4)
  clear HB
  have HB := HB'
  clear HB'
  replace A0 := cell_of hb4 A0
  replace A1 := cell_of hb4 A1
  replace A2 := cell_of hb4 A2
  replace A3 := cell_of hb4 A3
  replace A4 := cell_of hb4 A4
  replace A5 := cell_of hb4 A5
  replace B0 := cell_of hb4 B0
  replace B1 := cell_of hb4 B1
  replace B2 := cell_of hb4 B2
  replace B3 := cell_of hb4 B3
  replace B4 := cell_of hb4 B4
  replace C0 := cell_of hb4 C0
  replace C1 := cell_of hb4 C1
  replace C2 := cell_of hb4 C2
  replace C3 := cell_of hb4 C3
  replace C4 := cell_of hb4 C4
  clear hb4
  clear y0
  have y0 : w.heap.size < w4.heap.size := World.block_lt_of_cell? _ _ A0
  clear y1
  have y1 : w.heap.size + 1 < w4.heap.size := World.block_lt_of_cell? _ _ A3
  clear y2
  have y2 : w1.heap.size < w4.heap.size := World.block_lt_of_cell? _ _ B0
  clear y3
  have y3 : w1.heap.size + 1 < w4.heap.size := World.block_lt_of_cell? _ _ B3
  clear y4
  have y4 : w2.heap.size < w4.heap.size := World.block_lt_of_cell? _ _ C0
  clear y5
  have y5 : w2.heap.size + 1 < w4.heap.size := World.block_lt_of_cell? _ _ C3
  go_wp2_with fail
  refine (HJ.out _).mono ?_
  rintro e w' ⟨rfl, rfl⟩
  go_wp2_with fail
  have HY : Hid (∀ A B, Below w.heap.size w ((w4.alloc A).alloc B)) := Lib.hid fun A B => (HB.out.alloc HB.out.size A).alloc (by have := HB.out.size; simp; omega) B
  refine (awake_any _ (hh.out.below (HY.out _ _))).mono ?_
  rintro e v9 ⟨rfl, h9⟩
  go_wp2
  go_ret
  exact ⟨rfl, then2 (HY.out _ _) h9⟩

set_option maxRecDepth 100000 in
set_option maxHeartbeats 4000000 in
theorem law4_bok (op k n : Int) (s : ByteArray) (k' n' : Int) (s' : ByteArray) (bk bn : Int) (bs : ByteArray) (bfk : Int) (bft : ByteArray) (w : World) (hh : Hid (Hand w)) (HU : Hid (ProgU op k n s 0 0 noS 0 noS 2)) (HP : Hid (ProgB op k n s k' n' s' bk bn bs bfk bft 0)) (HI : Hid (IsU op false)) (HJ : Hid (IsB op true)) (HV : Hid (KVal k n s true)) (HW : Hid (KVal k' n' s' true)) (HQ : Hid (RefPost op k n s k' n' s' bk bn bs bfk bft)) :
    Calls Tryz.prog 4 #[.int .i64 op, valV k n s, valV k' n' s'] w fun e w' => e = .returned (.bool true) ∧ Below w.heap.size w w' := by
  go_enter Tryz.func4, Tryz.ntmps4
  go_wp2_with fail
  refine (HU.out _).mono ?_
  rintro e w1 ⟨rfl, hb1⟩
  obtain ⟨g1, p0, p1, A0, A1, A2, A3, A4, A5⟩ := keep2V hb1
  have HB := Lib.hid g1
  clear g1 hb1 p0 p1
  have y0 : w.heap.size < w1.heap.size := World.block_lt_of_cell? _ _ A0
  have y1 : w.heap.size + 1 < w1.heap.size := World.block_lt_of_cell? _ _ A3
  go_wp2_with fail
  refine (HP.out _).mono ?_
  rintro e w2 ⟨rfl, hb2⟩
  obtain ⟨g2, p0, p1, B0, B1, B2, B3, B4⟩ := keepV hb2
  have HB' := Lib.hid (then2 HB.out g2)
  clear HB
  have HB := HB'
  clear HB'
  replace A0 := cell_of g2 A0
  replace A1 := cell_of g2 A1
  replace A2 := cell_of g2 A2
  replace A3 := cell_of g2 A3
  replace A4 := cell_of g2 A4
  replace A5 := cell_of g2 A5
  clear g2 hb2 p0 p1
  clear y0
  have y0 : w.heap.size < w2.heap.size := World.block_lt_of_cell? _ _ A0
  clear y1
  have y1 : w.heap.size + 1 < w2.heap.size := World.block_lt_of_cell? _ _ A3
  have y2 : w1.heap.size < w2.heap.size := World.block_lt_of_cell? _ _ B0
  have y3 : w1.heap.size + 1 < w2.heap.size := World.block_lt_of_cell? _ _ B3
  go_wp2_with fail
  refine (HI.out _).mono ?_
  rintro e w' ⟨rfl, rfl⟩
  go_wp2_with fail
  refine (HJ.out _).mono ?_
  rintro e w' ⟨rfl, rfl⟩
  go_wp2_with fail
  refine (HV.out _).mono ?_
  rintro e w3 ⟨rfl, hb3⟩
  obtain ⟨g3, p0, p1, C0, C1, C2, C3, C4⟩ := keepV hb3
  have HB' := Lib.hid (then2 HB.out g3)
  clear HB
  have HB := HB'
  clear HB'
  replace A0 := cell_of g3 A0
  replace A1 := cell_of g3 A1
  replace A2 := cell_of g3 A2
  replace A3 := cell_of g3 A3
  replace A4 := cell_of g3 A4
  replace A5 := cell_of g3 A5
  replace B0 := cell_of g3 B0
  replace B1 := cell_of g3 B1
  replace B2 := cell_of g3 B2
  replace B3 := cell_of g3 B3
  replace B4 := cell_of g3 B4
  clear g3 hb3 p0 p1
  clear y0
  have y0 : w.heap.size < w3.heap.size := World.block_lt_of_cell? _ _ A0
  clear y1
  have y1 : w.heap.size + 1 < w3.heap.size := World.block_lt_of_cell? _ _ A3
  clear y2
  have y2 : w1.heap.size < w3.heap.size := World.block_lt_of_cell? _ _ B0
  clear y3
  have y3 : w1.heap.size + 1 < w3.heap.size := World.block_lt_of_cell? _ _ B3
  have y4 : w2.heap.size < w3.heap.size := World.block_lt_of_cell? _ _ C0
  have y5 : w2.heap.size + 1 < w3.heap.size := World.block_lt_of_cell? _ _ C3
  go_wp2_with fail
  refine (HW.out _).mono ?_
  rintro e w4 ⟨rfl, hb4⟩
  have HB' := Lib.hid (then2 HB.out hb4)
  clear HB
  have HB := HB'
  clear HB'
  replace A0 := cell_of hb4 A0
  replace A1 := cell_of hb4 A1
  replace A2 := cell_of hb4 A2
  replace A3 := cell_of hb4 A3
  replace A4 := cell_of hb4 A4
  replace A5 := cell_of hb4 A5
  replace B0 := cell_of hb4 B0
  replace B1 := cell_of hb4 B1
  replace B2 := cell_of hb4 B2
  replace B3 := cell_of hb4 B3
  replace B4 := cell_of hb4 B4
  replace C0 := cell_of hb4 C0
  replace C1 := cell_of hb4 C1
  replace C2 := cell_of hb4 C2
  replace C3 := cell_of hb4 C3
  replace C4 := cell_of hb4 C4
  clear hb4
  clear y0
  have y0 : w.heap.size < w4.heap.size := World.block_lt_of_cell? _ _ A0
  clear y1
  have y1 : w.heap.size + 1 < w4.heap.size := World.block_lt_of_cell? _ _ A3
  clear y2
  have y2 : w1.heap.size < w4.heap.size := World.block_lt_of_cell? _ _ B0
  clear y3
  have y3 : w1.heap.size + 1 < w4.heap.size := World.block_lt_of_cell? _ _ B3
  clear y4
  have y4 : w2.heap.size < w4.heap.size := World.block_lt_of_cell? _ _ C0
  clear y5
  have y5 : w2.heap.size + 1 < w4.heap.size := World.block_lt_of_cell? _ _ C3
  go_wp2_with fail
  refine (HQ.out _).mono ?_
  rintro e w5 ⟨rfl, hb5⟩
  have HB' := Lib.hid (then2 HB.out hb5)
  clear HB
  have HB := HB'
  clear HB'
  replace A0 := cell_of hb5 A0
  replace A1 := cell_of hb5 A1
  replace A2 := cell_of hb5 A2
  replace A3 := cell_of hb5 A3
  replace A4 := cell_of hb5 A4
  replace A5 := cell_of hb5 A5
  replace B0 := cell_of hb5 B0
  replace B1 := cell_of hb5 B1
  replace B2 := cell_of hb5 B2
  replace B3 := cell_of hb5 B3
  replace B4 := cell_of hb5 B4
  replace C0 := cell_of hb5 C0
  replace C1 := cell_of hb5 C1
  replace C2 := cell_of hb5 C2
  replace C3 := cell_of hb5 C3
  replace C4 := cell_of hb5 C4
  clear hb5
  clear y0
  have y0 : w.heap.size < w5.heap.size := World.block_lt_of_cell? _ _ A0
  clear y1
  have y1 : w.heap.size + 1 < w5.heap.size := World.block_lt_of_cell? _ _ A3
  clear y2
  have y2 : w1.heap.size < w5.heap.size := World.block_lt_of_cell? _ _ B0
  clear y3
  have y3 : w1.heap.size + 1 < w5.heap.size := World.block_lt_of_cell? _ _ B3
  clear y4
  have y4 : w2.heap.size < w5.heap.size := World.block_lt_of_cell? _ _ C0
  clear y5
  have y5 : w2.heap.size + 1 < w5.heap.size := World.block_lt_of_cell? _ _ C3
  go_wp2_with fail
  have HY : Hid (∀ A B, Below w.heap.size w ((w5.alloc A).alloc B)) := Lib.hid fun A B => (HB.out.alloc HB.out.size A).alloc (by have := HB.out.size; simp; omega) B
  refine (awake_any _ (hh.out.below (HY.out _ _))).mono ?_
  rintro e v9 ⟨rfl, h9⟩
  go_wp2
  go_ret
  exact ⟨rfl, then2 (HY.out _ _) h9⟩

end Go.Proofs.YtjacdlglbjnoeaaGreatDoor
