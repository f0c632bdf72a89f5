/- The function Binary at the other operators. -/
import Derived.Test.YtjacdlglbjnoeaaGreatDoorBinDiv
import Derived.Test.YtjacdlglbjnoeaaGreatDoorValid
import Derived.Maps.OwnOps
namespace Go.Proofs.YtjacdlglbjnoeaaGreatDoor
open Go.RowKit
open Go.Maps (Keyed)

set_option maxRecDepth 100000 in
set_option maxHeartbeats 1600000 in
theorem binary_9 (k1 n1 : Int) (s1 : ByteArray) (k2 n2 : Int) (s2 : ByteArray) (k n : Int) (s : ByteArray) (fk : Int) (ft : ByteArray) (w : World) (h1 : validB k1 n1 s1 = true) (h2 : validB k2 n2 s2 = true) (hs : s1.size ≤ 9223372036854775807) (ht : s2.size ≤ 9223372036854775807)
    (HC : Hid (∀ w1 b, w1.cell? ⟨b, 0, none⟩ = some (.bool true) → Calls Tryz.prog 111 #[valV k1 n1 s1, valV k2 n2 s2, .pointer (some ⟨b, 0, none⟩)] w1 fun e w' => e = .returned (outV k n s fk ft) ∧ Below w1.heap.size w1 w')) :
    Calls Tryz.prog 21 #[.int .i64 9, valV k1 n1 s1, valV k2 n2 s2] w fun e w' => e = .returned (binR k n s fk ft 0) ∧ Below w.heap.size w w' := by
  have V1 := fun w => wrong_any k1 n1 s1 w hs
  have V2 := fun w => wrong_any k2 n2 s2 w ht
  rw [h1] at V1
  rw [h2] at V2
  have W1 := Lib.hid V1
  have W2 := Lib.hid V2
  clear V1 V2 h1 h2
  go_enter Tryz.func21, Tryz.ntmps21
  go_wp2_with fail
  refine (binaries_any _).mono ?_
  rintro e w1 ⟨bm, rfl, b7, b8, b9, b10, b11, b12, b13, b14, b16, b17, c18, b18, c19, b19, H⟩
  obtain ⟨hg1, z0, z1, z2, z3⟩ := grown4 H.below
  obtain ⟨hc, hf⟩ := bcell H.below
  have kk0 := Lib.hid (H.cells (b9, .bool true) (by simp)).2
  go_wp2_with (first | (at_lookup; refine wpList_lookup_held _ rfl _ _ 79 rfl 3 89 key3 Tryz.underlying79 (Tryz.zeroValue89 _) bm 13 _ rfl H.owns _ _ rfl (keyI 9 (by decide)) (clo 111 b9) true rfl rfl ?_) | fail)
  refine (W1.out _).mono ?_
  rintro e w2 ⟨rfl, hb2⟩
  have hg2 := then2 hg1 hb2
  have hz2 := hb2.size
  obtain ⟨hc2, hf2⟩ := bcell hb2
  have x0 : w.heap.size < w2.heap.size := by omega
  have x1 : w.heap.size + 1 < w2.heap.size := by omega
  have x2 : w.heap.size + 1 + 1 < w2.heap.size := by omega
  have x3 : w.heap.size + 1 + 1 + 1 < w2.heap.size := by omega
  have ll0 := Lib.hid (cell_of hb2 kk0.out)
  clear hz2
  go_wp2_with fail
  refine (W2.out _).mono ?_
  rintro e w3 ⟨rfl, hb3⟩
  have hg3 := then2 hg2 hb3
  have hz3 := hb3.size
  obtain ⟨hc3, hf3⟩ := bcell hb3
  have y0 : w.heap.size < w3.heap.size := by omega
  have y1 : w.heap.size + 1 < w3.heap.size := by omega
  have y2 : w.heap.size + 1 + 1 < w3.heap.size := by omega
  have y3 : w.heap.size + 1 + 1 + 1 < w3.heap.size := by omega
  have mm0 := Lib.hid (cell_of hb3 ll0.out)
  clear hz3
  go_wp2_with fail
  refine (HC.out _ _ mm0.out).mono ?_
  rintro e w4 ⟨rfl, hb4⟩
  have hg4 := then2 hg3 hb4
  have hz4 := hb4.size
  obtain ⟨hc4, hf4⟩ := bcell hb4
  have u0 : w.heap.size < w4.heap.size := by omega
  have u1 : w.heap.size + 1 < w4.heap.size := by omega
  have u2 : w.heap.size + 1 + 1 < w4.heap.size := by omega
  have u3 : w.heap.size + 1 + 1 + 1 < w4.heap.size := by omega
  clear hz4 H HC W1 W2
  go_wp2_with fail
  go_region
  all_goals go_wp2
  exact bodyPost_ret (v := binR k n s fk ft 0) (by simp [results, Tryz.results21, go_sem, u2, u3, hc4, hc3, hc2, hc, x2, x3, y2, y3, z2, z3]) rfl ⟨rfl, by refine Below.drew (Below.alloc ?_ (by simp; omega) _); (repeat (first | with_reducible exact hg4 | with_reducible refine Below.setCell ?_ (by first | (simp; done) | (simp; omega)) _))⟩

set_option maxRecDepth 100000 in
set_option maxHeartbeats 1600000 in
theorem binary_10 (k1 n1 : Int) (s1 : ByteArray) (k2 n2 : Int) (s2 : ByteArray) (k n : Int) (s : ByteArray) (fk : Int) (ft : ByteArray) (w : World) (h1 : validB k1 n1 s1 = true) (h2 : validB k2 n2 s2 = true) (hs : s1.size ≤ 9223372036854775807) (ht : s2.size ≤ 9223372036854775807)
    (HC : Hid (∀ w1 b, w1.cell? ⟨b, 0, none⟩ = some (.bool false) → Calls Tryz.prog 111 #[valV k1 n1 s1, valV k2 n2 s2, .pointer (some ⟨b, 0, none⟩)] w1 fun e w' => e = .returned (outV k n s fk ft) ∧ Below w1.heap.size w1 w')) :
    Calls Tryz.prog 21 #[.int .i64 10, valV k1 n1 s1, valV k2 n2 s2] w fun e w' => e = .returned (binR k n s fk ft 0) ∧ Below w.heap.size w w' := by
  have V1 := fun w => wrong_any k1 n1 s1 w hs
  have V2 := fun w => wrong_any k2 n2 s2 w ht
  rw [h1] at V1
  rw [h2] at V2
  have W1 := Lib.hid V1
  have W2 := Lib.hid V2
  clear V1 V2 h1 h2
  go_enter Tryz.func21, Tryz.ntmps21
  go_wp2_with fail
  refine (binaries_any _).mono ?_
  rintro e w1 ⟨bm, rfl, b7, b8, b9, b10, b11, b12, b13, b14, b16, b17, c18, b18, c19, b19, H⟩
  obtain ⟨hg1, z0, z1, z2, z3⟩ := grown4 H.below
  obtain ⟨hc, hf⟩ := bcell H.below
  have kk0 := Lib.hid (H.cells (b10, .bool false) (by simp)).2
  go_wp2_with (first | (at_lookup; refine wpList_lookup_held _ rfl _ _ 79 rfl 3 89 key3 Tryz.underlying79 (Tryz.zeroValue89 _) bm 13 _ rfl H.owns _ _ rfl (keyI 10 (by decide)) (clo 111 b10) true rfl rfl ?_) | fail)
  refine (W1.out _).mono ?_
  rintro e w2 ⟨rfl, hb2⟩
  have hg2 := then2 hg1 hb2
  have hz2 := hb2.size
  obtain ⟨hc2, hf2⟩ := bcell hb2
  have x0 : w.heap.size < w2.heap.size := by omega
  have x1 : w.heap.size + 1 < w2.heap.size := by omega
  have x2 : w.heap.size + 1 + 1 < w2.heap.size := by omega
  have x3 : w.heap.size + 1 + 1 + 1 < w2.heap.size := by omega
  have ll0 := Lib.hid (cell_of hb2 kk0.out)
  clear hz2
  go_wp2_with fail
  refine (W2.out _).mono ?_
  rintro e w3 ⟨rfl, hb3⟩
  have hg3 := then2 hg2 hb3
  have hz3 := hb3.size
  obtain ⟨hc3, hf3⟩ := bcell hb3
  have y0 : w.heap.size < w3.heap.size := by omega
  have y1 : w.heap.size + 1 < w3.heap.size := by omega
  have y2 : w.heap.size + 1 + 1 < w3.heap.size := by omega
  have y3 : w.heap.size + 1 + 1 + 1 < w3.heap.size := by omega
  have mm0 := Lib.hid (cell_of hb3 ll0.out)
  clear hz3
  go_wp2_with fail
  refine (HC.out _ _ mm0.out).mono ?_
  rintro e w4 ⟨rfl, hb4⟩
  have hg4 := then2 hg3 hb4
  have hz4 := hb4.size
  obtain ⟨hc4, hf4⟩ := bcell hb4
  have u0 : w.heap.size < w4.heap.size := by omega
  have u1 : w.heap.size + 1 < w4.heap.size := by omega
  have u2 : w.heap.size + 1 + 1 < w4.heap.size := by omega
  have u3 : w.heap.size + 1 + 1 + 1 < w4.heap.size := by omega
  clear hz4 H HC W1 W2
  go_wp2_with fail
  go_region
  all_goals go_wp2
  exact bodyPost_ret (v := binR k n s fk ft 0) (by simp [results, Tryz.results21, go_sem, u2, u3, hc4, hc3, hc2, hc, x2, x3, y2, y3, z2, z3]) rfl ⟨rfl, by refine Below.drew (Below.alloc ?_ (by simp; omega) _); (repeat (first | with_reducible exact hg4 | with_reducible refine Below.setCell ?_ (by first | (simp; done) | (simp; omega)) _))⟩

set_option maxRecDepth 100000 in
set_option maxHeartbeats 1600000 in
theorem binary_11 (k1 n1 : Int) (s1 : ByteArray) (k2 n2 : Int) (s2 : ByteArray) (k n : Int) (s : ByteArray) (fk : Int) (ft : ByteArray) (w : World) (h1 : validB k1 n1 s1 = true) (h2 : validB k2 n2 s2 = true) (hs : s1.size ≤ 9223372036854775807) (ht : s2.size ≤ 9223372036854775807)
    (HC : Hid (∀ w1 b, w1.cell? ⟨b, 0, none⟩ = some (.int .i64 11) → Calls Tryz.prog 112 #[valV k1 n1 s1, valV k2 n2 s2, .pointer (some ⟨b, 0, none⟩)] w1 fun e w' => e = .returned (outV k n s fk ft) ∧ Below w1.heap.size w1 w')) :
    Calls Tryz.prog 21 #[.int .i64 11, valV k1 n1 s1, valV k2 n2 s2] w fun e w' => e = .returned (binR k n s fk ft 0) ∧ Below w.heap.size w w' := by
  have V1 := fun w => wrong_any k1 n1 s1 w hs
  have V2 := fun w => wrong_any k2 n2 s2 w ht
  rw [h1] at V1
  rw [h2] at V2
  have W1 := Lib.hid V1
  have W2 := Lib.hid V2
  clear V1 V2 h1 h2
  go_enter Tryz.func21, Tryz.ntmps21
  go_wp2_with fail
  refine (binaries_any _).mono ?_
  rintro e w1 ⟨bm, rfl, b7, b8, b9, b10, b11, b12, b13, b14, b16, b17, c18, b18, c19, b19, H⟩
  obtain ⟨hg1, z0, z1, z2, z3⟩ := grown4 H.below
  obtain ⟨hc, hf⟩ := bcell H.below
  have kk0 := Lib.hid (H.cells (b11, .int .i64 11) (by simp)).2
  go_wp2_with (first | (at_lookup; refine wpList_lookup_held _ rfl _ _ 79 rfl 3 89 key3 Tryz.underlying79 (Tryz.zeroValue89 _) bm 13 _ rfl H.owns _ _ rfl (keyI 11 (by decide)) (clo 112 b11) true rfl rfl ?_) | fail)
  refine (W1.out _).mono ?_
  rintro e w2 ⟨rfl, hb2⟩
  have hg2 := then2 hg1 hb2
  have hz2 := hb2.size
  obtain ⟨hc2, hf2⟩ := bcell hb2
  have x0 : w.heap.size < w2.heap.size := by omega
  have x1 : w.heap.size + 1 < w2.heap.size := by omega
  have x2 : w.heap.size + 1 + 1 < w2.heap.size := by omega
  have x3 : w.heap.size + 1 + 1 + 1 < w2.heap.size := by omega
  have ll0 := Lib.hid (cell_of hb2 kk0.out)
  clear hz2
  go_wp2_with fail
  refine (W2.out _).mono ?_
  rintro e w3 ⟨rfl, hb3⟩
  have hg3 := then2 hg2 hb3
  have hz3 := hb3.size
  obtain ⟨hc3, hf3⟩ := bcell hb3
  have y0 : w.heap.size < w3.heap.size := by omega
  have y1 : w.heap.size + 1 < w3.heap.size := by omega
  have y2 : w.heap.size + 1 + 1 < w3.heap.size := by omega
  have y3 : w.heap.size + 1 + 1 + 1 < w3.heap.size := by omega
  have mm0 := Lib.hid (cell_of hb3 ll0.out)
  clear hz3
  go_wp2_with fail
  refine (HC.out _ _ mm0.out).mono ?_
  rintro e w4 ⟨rfl, hb4⟩
  have hg4 := then2 hg3 hb4
  have hz4 := hb4.size
  obtain ⟨hc4, hf4⟩ := bcell hb4
  have u0 : w.heap.size < w4.heap.size := by omega
  have u1 : w.heap.size + 1 < w4.heap.size := by omega
  have u2 : w.heap.size + 1 + 1 < w4.heap.size := by omega
  have u3 : w.heap.size + 1 + 1 + 1 < w4.heap.size := by omega
  clear hz4 H HC W1 W2
  go_wp2_with fail
  go_region
  all_goals go_wp2
  exact bodyPost_ret (v := binR k n s fk ft 0) (by simp [results, Tryz.results21, go_sem, u2, u3, hc4, hc3, hc2, hc, x2, x3, y2, y3, z2, z3]) rfl ⟨rfl, by refine Below.drew (Below.alloc ?_ (by simp; omega) _); (repeat (first | with_reducible exact hg4 | with_reducible refine Below.setCell ?_ (by first | (simp; done) | (simp; omega)) _))⟩

set_option maxRecDepth 100000 in
set_option maxHeartbeats 1600000 in
theorem binary_12 (k1 n1 : Int) (s1 : ByteArray) (k2 n2 : Int) (s2 : ByteArray) (k n : Int) (s : ByteArray) (fk : Int) (ft : ByteArray) (w : World) (h1 : validB k1 n1 s1 = true) (h2 : validB k2 n2 s2 = true) (hs : s1.size ≤ 9223372036854775807) (ht : s2.size ≤ 9223372036854775807)
    (HC : Hid (∀ w1 b, w1.cell? ⟨b, 0, none⟩ = some (.int .i64 12) → Calls Tryz.prog 112 #[valV k1 n1 s1, valV k2 n2 s2, .pointer (some ⟨b, 0, none⟩)] w1 fun e w' => e = .returned (outV k n s fk ft) ∧ Below w1.heap.size w1 w')) :
    Calls Tryz.prog 21 #[.int .i64 12, valV k1 n1 s1, valV k2 n2 s2] w fun e w' => e = .returned (binR k n s fk ft 0) ∧ Below w.heap.size w w' := by
  have V1 := fun w => wrong_any k1 n1 s1 w hs
  have V2 := fun w => wrong_any k2 n2 s2 w ht
  rw [h1] at V1
  rw [h2] at V2
  have W1 := Lib.hid V1
  have W2 := Lib.hid V2
  clear V1 V2 h1 h2
  go_enter Tryz.func21, Tryz.ntmps21
  go_wp2_with fail
  refine (binaries_any _).mono ?_
  rintro e w1 ⟨bm, rfl, b7, b8, b9, b10, b11, b12, b13, b14, b16, b17, c18, b18, c19, b19, H⟩
  obtain ⟨hg1, z0, z1, z2, z3⟩ := grown4 H.below
  obtain ⟨hc, hf⟩ := bcell H.below
  have kk0 := Lib.hid (H.cells (b12, .int .i64 12) (by simp)).2
  go_wp2_with (first | (at_lookup; refine wpList_lookup_held _ rfl _ _ 79 rfl 3 89 key3 Tryz.underlying79 (Tryz.zeroValue89 _) bm 13 _ rfl H.owns _ _ rfl (keyI 12 (by decide)) (clo 112 b12) true rfl rfl ?_) | fail)
  refine (W1.out _).mono ?_
  rintro e w2 ⟨rfl, hb2⟩
  have hg2 := then2 hg1 hb2
  have hz2 := hb2.size
  obtain ⟨hc2, hf2⟩ := bcell hb2
  have x0 : w.heap.size < w2.heap.size := by omega
  have x1 : w.heap.size + 1 < w2.heap.size := by omega
  have x2 : w.heap.size + 1 + 1 < w2.heap.size := by omega
  have x3 : w.heap.size + 1 + 1 + 1 < w2.heap.size := by omega
  have ll0 := Lib.hid (cell_of hb2 kk0.out)
  clear hz2
  go_wp2_with fail
  refine (W2.out _).mono ?_
  rintro e w3 ⟨rfl, hb3⟩
  have hg3 := then2 hg2 hb3
  have hz3 := hb3.size
  obtain ⟨hc3, hf3⟩ := bcell hb3
  have y0 : w.heap.size < w3.heap.size := by omega
  have y1 : w.heap.size + 1 < w3.heap.size := by omega
  have y2 : w.heap.size + 1 + 1 < w3.heap.size := by omega
  have y3 : w.heap.size + 1 + 1 + 1 < w3.heap.size := by omega
  have mm0 := Lib.hid (cell_of hb3 ll0.out)
  clear hz3
  go_wp2_with fail
  refine (HC.out _ _ mm0.out).mono ?_
  rintro e w4 ⟨rfl, hb4⟩
  have hg4 := then2 hg3 hb4
  have hz4 := hb4.size
  obtain ⟨hc4, hf4⟩ := bcell hb4
  have u0 : w.heap.size < w4.heap.size := by omega
  have u1 : w.heap.size + 1 < w4.heap.size := by omega
  have u2 : w.heap.size + 1 + 1 < w4.heap.size := by omega
  have u3 : w.heap.size + 1 + 1 + 1 < w4.heap.size := by omega
  clear hz4 H HC W1 W2
  go_wp2_with fail
  go_region
  all_goals go_wp2
  exact bodyPost_ret (v := binR k n s fk ft 0) (by simp [results, Tryz.results21, go_sem, u2, u3, hc4, hc3, hc2, hc, x2, x3, y2, y3, z2, z3]) rfl ⟨rfl, by refine Below.drew (Below.alloc ?_ (by simp; omega) _); (repeat (first | with_reducible exact hg4 | with_reducible refine Below.setCell ?_ (by first | (simp; done) | (simp; omega)) _))⟩

set_option maxRecDepth 100000 in
set_option maxHeartbeats 1600000 in
theorem binary_13 (k1 n1 : Int) (s1 : ByteArray) (k2 n2 : Int) (s2 : ByteArray) (k n : Int) (s : ByteArray) (fk : Int) (ft : ByteArray) (w : World) (h1 : validB k1 n1 s1 = true) (h2 : validB k2 n2 s2 = true) (hs : s1.size ≤ 9223372036854775807) (ht : s2.size ≤ 9223372036854775807)
    (HC : Hid (∀ w1 b, w1.cell? ⟨b, 0, none⟩ = some (.int .i64 13) → Calls Tryz.prog 112 #[valV k1 n1 s1, valV k2 n2 s2, .pointer (some ⟨b, 0, none⟩)] w1 fun e w' => e = .returned (outV k n s fk ft) ∧ Below w1.heap.size w1 w')) :
    Calls Tryz.prog 21 #[.int .i64 13, valV k1 n1 s1, valV k2 n2 s2] w fun e w' => e = .returned (binR k n s fk ft 0) ∧ Below w.heap.size w w' := by
  have V1 := fun w => wrong_any k1 n1 s1 w hs
  have V2 := fun w => wrong_any k2 n2 s2 w ht
  rw [h1] at V1
  rw [h2] at V2
  have W1 := Lib.hid V1
  have W2 := Lib.hid V2
  clear V1 V2 h1 h2
  go_enter Tryz.func21, Tryz.ntmps21
  go_wp2_with fail
  refine (binaries_any _).mono ?_
  rintro e w1 ⟨bm, rfl, b7, b8, b9, b10, b11, b12, b13, b14, b16, b17, c18, b18, c19, b19, H⟩
  obtain ⟨hg1, z0, z1, z2, z3⟩ := grown4 H.below
  obtain ⟨hc, hf⟩ := bcell H.below
  have kk0 := Lib.hid (H.cells (b13, .int .i64 13) (by simp)).2
  go_wp2_with (first | (at_lookup; refine wpList_lookup_held _ rfl _ _ 79 rfl 3 89 key3 Tryz.underlying79 (Tryz.zeroValue89 _) bm 13 _ rfl H.owns _ _ rfl (keyI 13 (by decide)) (clo 112 b13) true rfl rfl ?_) | fail)
  refine (W1.out _).mono ?_
  rintro e w2 ⟨rfl, hb2⟩
  have hg2 := then2 hg1 hb2
  have hz2 := hb2.size
  obtain ⟨hc2, hf2⟩ := bcell hb2
  have x0 : w.heap.size < w2.heap.size := by omega
  have x1 : w.heap.size + 1 < w2.heap.size := by omega
  have x2 : w.heap.size + 1 + 1 < w2.heap.size := by omega
  have x3 : w.heap.size + 1 + 1 + 1 < w2.heap.size := by omega
  have ll0 := Lib.hid (cell_of hb2 kk0.out)
  clear hz2
  go_wp2_with fail
  refine (W2.out _).mono ?_
  rintro e w3 ⟨rfl, hb3⟩
  have hg3 := then2 hg2 hb3
  have hz3 := hb3.size
  obtain ⟨hc3, hf3⟩ := bcell hb3
  have y0 : w.heap.size < w3.heap.size := by omega
  have y1 : w.heap.size + 1 < w3.heap.size := by omega
  have y2 : w.heap.size + 1 + 1 < w3.heap.size := by omega
  have y3 : w.heap.size + 1 + 1 + 1 < w3.heap.size := by omega
  have mm0 := Lib.hid (cell_of hb3 ll0.out)
  clear hz3
  go_wp2_with fail
  refine (HC.out _ _ mm0.out).mono ?_
  rintro e w4 ⟨rfl, hb4⟩
  have hg4 := then2 hg3 hb4
  have hz4 := hb4.size
  obtain ⟨hc4, hf4⟩ := bcell hb4
  have u0 : w.heap.size < w4.heap.size := by omega
  have u1 : w.heap.size + 1 < w4.heap.size := by omega
  have u2 : w.heap.size + 1 + 1 < w4.heap.size := by omega
  have u3 : w.heap.size + 1 + 1 + 1 < w4.heap.size := by omega
  clear hz4 H HC W1 W2
  go_wp2_with fail
  go_region
  all_goals go_wp2
  exact bodyPost_ret (v := binR k n s fk ft 0) (by simp [results, Tryz.results21, go_sem, u2, u3, hc4, hc3, hc2, hc, x2, x3, y2, y3, z2, z3]) rfl ⟨rfl, by refine Below.drew (Below.alloc ?_ (by simp; omega) _); (repeat (first | with_reducible exact hg4 | with_reducible refine Below.setCell ?_ (by first | (simp; done) | (simp; omega)) _))⟩

set_option maxRecDepth 100000 in
set_option maxHeartbeats 1600000 in
theorem binary_14 (k1 n1 : Int) (s1 : ByteArray) (k2 n2 : Int) (s2 : ByteArray) (k n : Int) (s : ByteArray) (fk : Int) (ft : ByteArray) (w : World) (h1 : validB k1 n1 s1 = true) (h2 : validB k2 n2 s2 = true) (hs : s1.size ≤ 9223372036854775807) (ht : s2.size ≤ 9223372036854775807)
    (HC : Hid (∀ w1 b, w1.cell? ⟨b, 0, none⟩ = some (.int .i64 14) → Calls Tryz.prog 112 #[valV k1 n1 s1, valV k2 n2 s2, .pointer (some ⟨b, 0, none⟩)] w1 fun e w' => e = .returned (outV k n s fk ft) ∧ Below w1.heap.size w1 w')) :
    Calls Tryz.prog 21 #[.int .i64 14, valV k1 n1 s1, valV k2 n2 s2] w fun e w' => e = .returned (binR k n s fk ft 0) ∧ Below w.heap.size w w' := by
  have V1 := fun w => wrong_any k1 n1 s1 w hs
  have V2 := fun w => wrong_any k2 n2 s2 w ht
  rw [h1] at V1
  rw [h2] at V2
  have W1 := Lib.hid V1
  have W2 := Lib.hid V2
  clear V1 V2 h1 h2
  go_enter Tryz.func21, Tryz.ntmps21
  go_wp2_with fail
  refine (binaries_any _).mono ?_
  rintro e w1 ⟨bm, rfl, b7, b8, b9, b10, b11, b12, b13, b14, b16, b17, c18, b18, c19, b19, H⟩
  obtain ⟨hg1, z0, z1, z2, z3⟩ := grown4 H.below
  obtain ⟨hc, hf⟩ := bcell H.below
  have kk0 := Lib.hid (H.cells (b14, .int .i64 14) (by simp)).2
  go_wp2_with (first | (at_lookup; refine wpList_lookup_held _ rfl _ _ 79 rfl 3 89 key3 Tryz.underlying79 (Tryz.zeroValue89 _) bm 13 _ rfl H.owns _ _ rfl (keyI 14 (by decide)) (clo 112 b14) true rfl rfl ?_) | fail)
  refine (W1.out _).mono ?_
  rintro e w2 ⟨rfl, hb2⟩
  have hg2 := then2 hg1 hb2
  have hz2 := hb2.size
  obtain ⟨hc2, hf2⟩ := bcell hb2
  have x0 : w.heap.size < w2.heap.size := by omega
  have x1 : w.heap.size + 1 < w2.heap.size := by omega
  have x2 : w.heap.size + 1 + 1 < w2.heap.size := by omega
  have x3 : w.heap.size + 1 + 1 + 1 < w2.heap.size := by omega
  have ll0 := Lib.hid (cell_of hb2 kk0.out)
  clear hz2
  go_wp2_with fail
  refine (W2.out _).mono ?_
  rintro e w3 ⟨rfl, hb3⟩
  have hg3 := then2 hg2 hb3
  have hz3 := hb3.size
  obtain ⟨hc3, hf3⟩ := bcell hb3
  have y0 : w.heap.size < w3.heap.size := by omega
  have y1 : w.heap.size + 1 < w3.heap.size := by omega
  have y2 : w.heap.size + 1 + 1 < w3.heap.size := by omega
  have y3 : w.heap.size + 1 + 1 + 1 < w3.heap.size := by omega
  have mm0 := Lib.hid (cell_of hb3 ll0.out)
  clear hz3
  go_wp2_with fail
  refine (HC.out _ _ mm0.out).mono ?_
  rintro e w4 ⟨rfl, hb4⟩
  have hg4 := then2 hg3 hb4
  have hz4 := hb4.size
  obtain ⟨hc4, hf4⟩ := bcell hb4
  have u0 : w.heap.size < w4.heap.size := by omega
  have u1 : w.heap.size + 1 < w4.heap.size := by omega
  have u2 : w.heap.size + 1 + 1 < w4.heap.size := by omega
  have u3 : w.heap.size + 1 + 1 + 1 < w4.heap.size := by omega
  clear hz4 H HC W1 W2
  go_wp2_with fail
  go_region
  all_goals go_wp2
  exact bodyPost_ret (v := binR k n s fk ft 0) (by simp [results, Tryz.results21, go_sem, u2, u3, hc4, hc3, hc2, hc, x2, x3, y2, y3, z2, z3]) rfl ⟨rfl, by refine Below.drew (Below.alloc ?_ (by simp; omega) _); (repeat (first | with_reducible exact hg4 | with_reducible refine Below.setCell ?_ (by first | (simp; done) | (simp; omega)) _))⟩

end Go.Proofs.YtjacdlglbjnoeaaGreatDoor
