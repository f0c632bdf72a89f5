/- ChannelNobody returns true. -/
import Derived.Test.YtlibkhndekgnfaaDoorOpArg
namespace Go.Proofs.YtlibkhndekgnfaaDoor
open Go.RowKit

abbrev opV (kd t : Int) (b : Bool) (k n : Int) (s : ByteArray) : Value := .agg #[.int .i64 kd, .int .i64 t, .bool b, .int .i64 k, .int .i64 n, .string s]

set_option maxRecDepth 100000 in
set_option maxHeartbeats 8000000 in
theorem law_nobody (kd t : Int) (b : Bool) (k n : Int) (s : ByteArray) (w : World) (henv : Env w) :
    Calls Tryd.prog 4 #[opV kd t b k n s] w fun e w' => e = .returned (.bool true) ∧ Below w.heap.size w w' := by
  have HE := Lib.hid henv
  clear henv
  go_enter Tryd.func4, Tryd.ntmps4
  go_wp2_with fail
  refine (offer_nil k n s _).mono ?_
  rintro e w1 ⟨rfl, hb1⟩
  have bO := (Blk.new w #[.int .i64 kd, .int .i64 t, .bool b, .int .i64 k, .int .i64 n, .string s] 39).below hb1 (by simp)
  have HB1 := Lib.hid ((one w _).trans (hb1.mono (by simp)))
  have hz1 := hb1.size
  simp only [World.size_alloc] at hz1
  have HO := Lib.hid bO
  clear hb1 bO
  go_wp2_with fail
  refine (take_nil _).mono ?_
  rintro e w2 ⟨rfl, hb2⟩
  have bF := (Blk.new w1 #[.int .i64 0, .string noS] 45).below hb2 (by simp)
  have bO := (HO.out.alloc (.cells #[.int .i64 0, .string noS] 45)).below hb2 (by simp; omega)
  have HB2 := Lib.hid ((HB1.out.alloc (by omega) (.cells #[.int .i64 0, .string noS] 45)).trans (hb2.mono (by simp; omega)))
  have hz2 := hb2.size
  simp only [World.size_alloc] at hz2
  have o1 : w2.cell? ⟨w.heap.size, 1, none⟩ = some (.int .i64 t) := bO.cell 1 (by simp)
  have o2 : w2.cell? ⟨w.heap.size, 2, none⟩ = some (.bool b) := bO.cell 2 (by simp)
  have o3 : w2.cell? ⟨w.heap.size, 3, none⟩ = some (.int .i64 k) := bO.cell 3 (by simp)
  have o4 : w2.cell? ⟨w.heap.size, 4, none⟩ = some (.int .i64 n) := bO.cell 4 (by simp)
  have o5 : w2.cell? ⟨w.heap.size, 5, none⟩ = some (.string s) := bO.cell 5 (by simp)
  have f0 : w2.cell? ⟨w1.heap.size, 0, none⟩ = some (.int .i64 0) := bF.cell 0 (by simp)
  have f1 : w2.cell? ⟨w1.heap.size, 1, none⟩ = some (.string noS) := bF.cell 1 (by simp)
  have hq1 : w.heap.size < w2.heap.size := by omega
  have hq2 : w1.heap.size < w2.heap.size := by omega
  clear hb2 bF bO HO
  go_wp2_with fail
  refine (park_nil t b k n s _).mono ?_
  rintro e w3 ⟨rfl, hb3⟩
  have HB3 := Lib.hid (((HB2.out.alloc (by omega) (.cells #[.int .i64 0, .int .i64 0, .string noS] 37)).alloc (by simp; omega) (.cells #[.int .i64 0, .string noS] 45)).trans (hb3.mono (by simp; omega)))
  have e1 : w3.cell? ⟨w.heap.size, 1, none⟩ = some (.int .i64 t) := cell_of hb3 (by rw [World.cell?_alloc_past _ _ _ (by simp; omega), World.cell?_alloc_past _ _ _ (by omega)]; exact o1)
  have hz3 := hb3.size
  simp only [World.size_alloc] at hz3
  have hq3 : w.heap.size < w3.heap.size := by omega
  clear hb3 o1 o2 o3 o4 o5 f0 f1 HB2
  go_wp2_with fail
  refine (withdraw_nil t _).mono ?_
  rintro e w4 ⟨rfl, hb4⟩
  have HB4 := Lib.hid (HB3.out.trans (hb4.mono (by omega)))
  have hz4 := hb4.size
  clear hb4 e1 HB3
  go_wp2_with fail
  refine (close_nil _).mono ?_
  rintro e w5 ⟨rfl, hb5⟩
  have HB5 := Lib.hid (HB4.out.trans (hb5.mono (by omega)))
  have hz5 := hb5.size
  clear hb5 HB4
  go_wp2_with fail
  refine (state_nil _).mono ?_
  rintro e w6 ⟨rfl, hb6⟩
  have HB6 := Lib.hid (HB5.out.trans (hb6.mono (by omega)))
  have hz6 := hb6.size
  clear hb6 HB5
  go_wp2_with fail
  refine (same_nil _).mono ?_
  rintro e w7 ⟨rfl, hb7⟩
  have HB7 := Lib.hid (HB6.out.trans (hb7.mono (by omega)))
  have hz7 := hb7.size
  clear hb7 HB6
  go_wp2_with fail
  refine (copy_nil _).mono ?_
  rintro e w8 ⟨rfl, hb8⟩
  have HB8 := Lib.hid (HB7.out.trans (hb8.mono (by omega)))
  have hz8 := hb8.size
  clear hb8 HB7
  go_wp2_with fail
  refine (awake_any _ (HE.out.below HB8.out)).mono ?_
  rintro e w9 ⟨rfl, hb9⟩
  have HB9 := Lib.hid (HB8.out.trans (hb9.mono (by omega)))
  clear hb9 HB8
  go_wp2
  go_ret
  exact ⟨rfl, HB9.out⟩
theorem law_nobody_c (o : Op) (w : World) (_ : o.v.s.size ≤ maxLen) (henv : Env w) :
    Calls Tryd.prog 4 #[.agg (opCells o).toArray] w fun e w' => e = .returned (.bool true) ∧ Below w.heap.size w w' := law_nobody o.kd o.t o.send o.v.k o.v.n o.v.s w henv
end Go.Proofs.YtlibkhndekgnfaaDoor
