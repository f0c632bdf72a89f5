/- The function Binary: errors, and the operators that divide. -/
import Derived.Test.YtjacdlglbjnoeaaGreatDoorTable
import Derived.Test.YtjacdlglbjnoeaaGreatDoorValid
import Derived.Maps.OwnOps
namespace Go.Proofs.YtjacdlglbjnoeaaGreatDoor
open Go.RowKit
open Go.Maps (Keyed)

theorem wrong_any (k n : Int) (s : ByteArray) (w : World) (hs : s.size ≤ 9223372036854775807) : Calls Tryz.prog 45 #[valV k n s] w (BPost (!validB k n s) w) := by
  have K := fun w => valid_any k n s w hs
  generalize validB k n s = r at K ⊢
  have KK := Lib.hid K
  clear K
  cases r <;>
  · go_enter Tryz.func45, Tryz.ntmps45
    go_wp2_with (go_at_call 56; refine (KK.out _).mono ?_; rintro e w1 ⟨rfl, hb⟩)
    go_ret
    exact ⟨rfl, (grown hb).1⟩

/-- What Binary returns: a value, a fault, an error code. -/
abbrev binR (k n : Int) (s : ByteArray) (fk : Int) (ft : ByteArray) (e : Int) : Value := .tuple #[valV k n s, .agg #[.int .i64 fk, .string ft], .int .i64 e]

theorem grown4 {w w1 : World} {o1 o2 o3 o4 : Obj} (hb : Below ((((w.alloc o1).alloc o2).alloc o3).alloc o4).heap.size ((((w.alloc o1).alloc o2).alloc o3).alloc o4) w1) :
    Below w.heap.size w w1 ∧ w.heap.size < w1.heap.size ∧ w.heap.size + 1 < w1.heap.size ∧ w.heap.size + 1 + 1 < w1.heap.size ∧ w.heap.size + 1 + 1 + 1 < w1.heap.size := by
  have h1 := hb.size
  have h2 : ((((w.alloc o1).alloc o2).alloc o3).alloc o4).heap.size = w.heap.size + 4 := by simp
  refine ⟨?_, by omega, by omega, by omega, by omega⟩
  have h3 : Below w.heap.size w ((((w.alloc o1).alloc o2).alloc o3).alloc o4) := (((one w o1).alloc (by simp) _).alloc (by simp; omega) _).alloc (by simp; omega) _
  exact h3.trans (hb.mono h3.size)

set_option maxRecDepth 100000 in
set_option maxHeartbeats 1600000 in
theorem binary_18 (k1 n1 : Int) (s1 : ByteArray) (k2 n2 : Int) (s2 : ByteArray) (k n : Int) (s : ByteArray) (fk : Int) (ft : ByteArray) (w : World) (h1 : validB k1 n1 s1 = true) (h2 : validB k2 n2 s2 = true) (hs : s1.size ≤ 9223372036854775807) (ht : s2.size ≤ 9223372036854775807)
    (HC : Hid (∀ w1 b c, w1.cell? ⟨b, 0, none⟩ = some (clo 119 c) → w1.cell? ⟨c, 0, none⟩ = some (fnV 91) → Calls Tryz.prog 117 #[valV k1 n1 s1, valV k2 n2 s2, .pointer (some ⟨b, 0, none⟩)] w1 fun e w' => e = .returned (outV k n s fk ft) ∧ Below w1.heap.size w1 w')) :
    Calls Tryz.prog 21 #[.int .i64 18, valV k1 n1 s1, valV k2 n2 s2] w fun e w' => e = .returned (binR k n s fk ft 0) ∧ Below w.heap.size w w' := by
  have V1 := fun w => wrong_any k1 n1 s1 w hs
  have V2 := fun w => wrong_any k2 n2 s2 w ht
  rw [h1] at V1
  rw [h2] at V2
  have W1 := Lib.hid V1
  have W2 := Lib.hid V2
  clear V1 V2 h1 h2
  go_enter Tryz.func21, Tryz.ntmps21
  go_wp2_with fail
  refine (binaries_any _).mono ?_
  rintro e w1 ⟨bm, rfl, b7, b8, b9, b10, b11, b12, b13, b14, b16, b17, c18, b18, c19, b19, H⟩
  obtain ⟨hg1, z0, z1, z2, z3⟩ := grown4 H.below
  obtain ⟨hc, hf⟩ := bcell H.below
  have kk0 := Lib.hid (H.cells (b18, clo 119 c18) (by simp)).2
  have kk1 := Lib.hid (H.cells (c18, fnV 91) (by simp)).2
  go_wp2_with (first | (at_lookup; refine wpList_lookup_held _ rfl _ _ 79 rfl 3 89 key3 Tryz.underlying79 (Tryz.zeroValue89 _) bm 13 _ rfl H.owns _ _ rfl (keyI 18 (by decide)) (clo 117 b18) true rfl rfl ?_) | fail)
  refine (W1.out _).mono ?_
  rintro e w2 ⟨rfl, hb2⟩
  have hg2 := then2 hg1 hb2
  have hz2 := hb2.size
  obtain ⟨hc2, hf2⟩ := bcell hb2
  have x0 : w.heap.size < w2.heap.size := by omega
  have x1 : w.heap.size + 1 < w2.heap.size := by omega
  have x2 : w.heap.size + 1 + 1 < w2.heap.size := by omega
  have x3 : w.heap.size + 1 + 1 + 1 < w2.heap.size := by omega
  have ll0 := Lib.hid (cell_of hb2 kk0.out)
  have ll1 := Lib.hid (cell_of hb2 kk1.out)
  clear hz2
  go_wp2_with fail
  refine (W2.out _).mono ?_
  rintro e w3 ⟨rfl, hb3⟩
  have hg3 := then2 hg2 hb3
  have hz3 := hb3.size
  obtain ⟨hc3, hf3⟩ := bcell hb3
  have y0 : w.heap.size < w3.heap.size := by omega
  have y1 : w.heap.size + 1 < w3.heap.size := by omega
  have y2 : w.heap.size + 1 + 1 < w3.heap.size := by omega
  have y3 : w.heap.size + 1 + 1 + 1 < w3.heap.size := by omega
  have mm0 := Lib.hid (cell_of hb3 ll0.out)
  have mm1 := Lib.hid (cell_of hb3 ll1.out)
  clear hz3
  go_wp2_with fail
  refine (HC.out _ _ _ mm0.out mm1.out).mono ?_
  rintro e w4 ⟨rfl, hb4⟩
  have hg4 := then2 hg3 hb4
  have hz4 := hb4.size
  obtain ⟨hc4, hf4⟩ := bcell hb4
  have u0 : w.heap.size < w4.heap.size := by omega
  have u1 : w.heap.size + 1 < w4.heap.size := by omega
  have u2 : w.heap.size + 1 + 1 < w4.heap.size := by omega
  have u3 : w.heap.size + 1 + 1 + 1 < w4.heap.size := by omega
  clear hz4 H HC W1 W2
  go_wp2_with fail
  go_region
  all_goals go_wp2
  exact bodyPost_ret (v := binR k n s fk ft 0) (by simp [results, Tryz.results21, go_sem, u2, u3, hc4, hc3, hc2, hc, x2, x3, y2, y3, z2, z3]) rfl ⟨rfl, by refine Below.drew (Below.alloc ?_ (by simp; omega) _); (repeat (first | with_reducible exact hg4 | with_reducible refine Below.setCell ?_ (by first | (simp; done) | (simp; omega)) _))⟩

set_option maxRecDepth 100000 in
set_option maxHeartbeats 1600000 in
theorem binary_19 (k1 n1 : Int) (s1 : ByteArray) (k2 n2 : Int) (s2 : ByteArray) (k n : Int) (s : ByteArray) (fk : Int) (ft : ByteArray) (w : World) (h1 : validB k1 n1 s1 = true) (h2 : validB k2 n2 s2 = true) (hs : s1.size ≤ 9223372036854775807) (ht : s2.size ≤ 9223372036854775807)
    (HC : Hid (∀ w1 b c, w1.cell? ⟨b, 0, none⟩ = some (clo 119 c) → w1.cell? ⟨c, 0, none⟩ = some (fnV 92) → Calls Tryz.prog 117 #[valV k1 n1 s1, valV k2 n2 s2, .pointer (some ⟨b, 0, none⟩)] w1 fun e w' => e = .returned (outV k n s fk ft) ∧ Below w1.heap.size w1 w')) :
    Calls Tryz.prog 21 #[.int .i64 19, valV k1 n1 s1, valV k2 n2 s2] w fun e w' => e = .returned (binR k n s fk ft 0) ∧ Below w.heap.size w w' := by
  have V1 := fun w => wrong_any k1 n1 s1 w hs
  have V2 := fun w => wrong_any k2 n2 s2 w ht
  rw [h1] at V1
  rw [h2] at V2
  have W1 := Lib.hid V1
  have W2 := Lib.hid V2
  clear V1 V2 h1 h2
  go_enter Tryz.func21, Tryz.ntmps21
  go_wp2_with fail
  refine (binaries_any _).mono ?_
  rintro e w1 ⟨bm, rfl, b7, b8, b9, b10, b11, b12, b13, b14, b16, b17, c18, b18, c19, b19, H⟩
  obtain ⟨hg1, z0, z1, z2, z3⟩ := grown4 H.below
  obtain ⟨hc, hf⟩ := bcell H.below
  have kk0 := Lib.hid (H.cells (b19, clo 119 c19) (by simp)).2
  have kk1 := Lib.hid (H.cells (c19, fnV 92) (by simp)).2
  go_wp2_with (first | (at_lookup; refine wpList_lookup_held _ rfl _ _ 79 rfl 3 89 key3 Tryz.underlying79 (Tryz.zeroValue89 _) bm 13 _ rfl H.owns _ _ rfl (keyI 19 (by decide)) (clo 117 b19) true rfl rfl ?_) | fail)
  refine (W1.out _).mono ?_
  rintro e w2 ⟨rfl, hb2⟩
  have hg2 := then2 hg1 hb2
  have hz2 := hb2.size
  obtain ⟨hc2, hf2⟩ := bcell hb2
  have x0 : w.heap.size < w2.heap.size := by omega
  have x1 : w.heap.size + 1 < w2.heap.size := by omega
  have x2 : w.heap.size + 1 + 1 < w2.heap.size := by omega
  have x3 : w.heap.size + 1 + 1 + 1 < w2.heap.size := by omega
  have ll0 := Lib.hid (cell_of hb2 kk0.out)
  have ll1 := Lib.hid (cell_of hb2 kk1.out)
  clear hz2
  go_wp2_with fail
  refine (W2.out _).mono ?_
  rintro e w3 ⟨rfl, hb3⟩
  have hg3 := then2 hg2 hb3
  have hz3 := hb3.size
  obtain ⟨hc3, hf3⟩ := bcell hb3
  have y0 : w.heap.size < w3.heap.size := by omega
  have y1 : w.heap.size + 1 < w3.heap.size := by omega
  have y2 : w.heap.size + 1 + 1 < w3.heap.size := by omega
  have y3 : w.heap.size + 1 + 1 + 1 < w3.heap.size := by omega
  have mm0 := Lib.hid (cell_of hb3 ll0.out)
  have mm1 := Lib.hid (cell_of hb3 ll1.out)
  clear hz3
  go_wp2_with fail
  refine (HC.out _ _ _ mm0.out mm1.out).mono ?_
  rintro e w4 ⟨rfl, hb4⟩
  have hg4 := then2 hg3 hb4
  have hz4 := hb4.size
  obtain ⟨hc4, hf4⟩ := bcell hb4
  have u0 : w.heap.size < w4.heap.size := by omega
  have u1 : w.heap.size + 1 < w4.heap.size := by omega
  have u2 : w.heap.size + 1 + 1 < w4.heap.size := by omega
  have u3 : w.heap.size + 1 + 1 + 1 < w4.heap.size := by omega
  clear hz4 H HC W1 W2
  go_wp2_with fail
  go_region
  all_goals go_wp2
  exact bodyPost_ret (v := binR k n s fk ft 0) (by simp [results, Tryz.results21, go_sem, u2, u3, hc4, hc3, hc2, hc, x2, x3, y2, y3, z2, z3]) rfl ⟨rfl, by refine Below.drew (Below.alloc ?_ (by simp; omega) _); (repeat (first | with_reducible exact hg4 | with_reducible refine Below.setCell ?_ (by first | (simp; done) | (simp; omega)) _))⟩

end Go.Proofs.YtjacdlglbjnoeaaGreatDoor
