/- Show and Read at the inputs of the function awake. -/
import Derived.Test.YtjacdlglbjnoeaaGreatDoorBinDiv
import Derived.Test.YtjacdlglbjnoeaaGreatDoorShelf
import Derived.Deep.RegionWith
import Derived.WalkSmall
namespace Go.Proofs.YtjacdlglbjnoeaaGreatDoor
open Go.RowKit

abbrev chanS : ByteArray := ⟨#[99, 104, 97, 110]⟩
abbrev chan5S : ByteArray := ⟨#[99, 104, 97, 110, 35, 53]⟩
abbrev trueS : ByteArray := ⟨#[116, 114, 117, 101]⟩
theorem dec5 : (⟨(Lib.decDigits 5).toArray⟩ : ByteArray) = ⟨#[53]⟩ := by unfold Lib.decDigits; rfl
theorem itoa5 (w : World) : Calls Tryz.prog 93 #[.int .i64 5] w fun e w' => e = .returned (.string ⟨#[53]⟩) ∧ w' = w := by
  have h := Tryz.strconv_Itoa_small 5 (by omega) w
  rw [dec5] at h
  exact h

set_option maxRecDepth 100000 in
theorem show_chan5 (w : World) (hh : w.cell? ⟨1, 4, none⟩ = some (.string chanS)) : Calls Tryz.prog 58 #[valV 4 5 noS] w fun e w' => e = .returned (.string chan5S) ∧ Below w.heap.size w w' := by
  have hlt := World.block_lt_of_cell? _ _ hh
  go_enter Tryz.func58, Tryz.ntmps58
  go_wp2
  go_quiet ((go_at_call 93; exact Calls.quiet_of_same (itoa5 _)))
  all_goals (go_wp2; go_ret)
  exact ⟨rfl, _root_.Go.below_drewN (one _ _) _⟩

theorem new1_then {w w1 : World} {o : Obj} {n : Nat} (h : Below ((w.alloc o).drewN n).heap.size ((w.alloc o).drewN n) w1) : Below w.heap.size w w1 :=
  (_root_.Go.below_drewN (one w o) n).trans (h.mono (_root_.Go.below_drewN (one w o) n).size)

set_option maxRecDepth 100000 in
theorem show_true (w : World) : Calls Tryz.prog 58 #[valV 2 1 noS] w fun e w' => e = .returned (.string trueS) ∧ Below w.heap.size w w' := by
  go_enter Tryz.func58, Tryz.ntmps58
  go_wp2
  go_region_with (go_at_call 79; refine (truth_any _ _).mono ?_; rintro e w2 ⟨rfl, hb2⟩; have hbb := Lib.hid (new1_then (n := 1) hb2); obtain ⟨hc2, hf2⟩ := bcell hb2)
  all_goals (go_wp2; go_ret)
  all_goals exact ⟨rfl, hbb.out⟩

set_option maxRecDepth 100000 in
theorem showR_chan5 (w : World) (hh : w.cell? ⟨1, 4, none⟩ = some (.string chanS)) : Calls Tryz.prog 30 #[valV 4 5 noS] w fun e w' => e = .returned (.tuple #[.string chan5S, .int .i64 0]) ∧ Below w.heap.size w w' := by
  have V1 := fun w => wrong_any 4 5 noS w (by decide)
  rw [show validB 4 5 noS = true from by decide +kernel] at V1
  have W1 := Lib.hid V1
  clear V1
  go_enter Tryz.func30, Tryz.ntmps30
  go_wp2_with fail
  refine (W1.out _).mono ?_
  rintro e w1 ⟨rfl, hb1⟩
  obtain ⟨hg1, z0⟩ := grown hb1
  obtain ⟨hc, hf⟩ := bcell hb1
  have hh1 := Lib.hid (cell_of hg1 hh)
  clear hh
  go_wp2_with fail
  refine (show_chan5 _ hh1.out).mono ?_
  rintro e w2 ⟨rfl, hb2⟩
  go_wp2
  go_ret2
  exact ⟨rfl, then2 hg1 hb2⟩

set_option maxRecDepth 100000 in
theorem guess_true (w : World) : Calls Tryz.prog 61 #[.string trueS] w fun e w' => e = .returned (valV 2 1 noS) ∧ Below w.heap.size w w' := by
  go_enter Tryz.func61, Tryz.ntmps61
  go_wp2_with fail
  refine (truth_any _ _).mono ?_
  rintro e w1 ⟨rfl, hb1⟩
  obtain ⟨hg1, z0⟩ := grown hb1
  obtain ⟨hc, hf⟩ := bcell hb1
  go_wp2
  exact bodyPost_ret (v := valV 2 1 noS) (by simp [results, Tryz.results61, go_sem, hc]) rfl ⟨rfl, by (repeat (first | with_reducible exact hg1 | with_reducible refine Below.setCell ?_ (by first | (simp; done) | (simp; omega)) _))⟩

set_option maxRecDepth 100000 in
set_option maxHeartbeats 1000000 in
theorem read_true (w : World) : Calls Tryz.prog 32 #[.string trueS] w fun e w' => e = .returned (.tuple #[valV 2 1 noS, .int .i64 0]) ∧ Below w.heap.size w w' := by
  have V1 := fun w => wrong_any 2 1 noS w (by decide)
  rw [show validB 2 1 noS = true from by decide +kernel] at V1
  have W1 := Lib.hid V1
  clear V1
  go_enter Tryz.func32, Tryz.ntmps32
  go_wp2_with fail
  refine (guess_true _).mono ?_
  rintro e w1 ⟨rfl, hb1⟩
  obtain ⟨hg1, z0⟩ := grown hb1
  obtain ⟨hc, hf⟩ := bcell hb1
  go_wp2_with fail
  refine (W1.out _).mono ?_
  rintro e w2 ⟨rfl, hb2⟩
  obtain ⟨hg2, y1⟩ := grown hb2
  have hg12 := then2 hg1 hg2
  obtain ⟨hc2, hf2⟩ := bcell hb2
  have y0 : w.heap.size < w2.heap.size := by omega
  go_wp2_with fail
  refine (show_true _).mono ?_
  rintro e w3 ⟨rfl, hb3⟩
  obtain ⟨hc3, hf3⟩ := bcell hb3
  have hz3 := hb3.size
  have hg3 := then2 hg12 hb3
  have x0 : w.heap.size < w3.heap.size := by omega
  have x1 : w1.heap.size < w3.heap.size := by omega
  clear hz3
  have hc2' := (bcell hg2).1
  go_wp2
  exact bodyPost_ret (v := .tuple #[valV 2 1 noS, .int .i64 0]) (by simp [results, Tryz.results32, go_sem, hc, hc2', hc3, y0, z0]) rfl ⟨rfl, by (repeat (first | with_reducible exact hg3 | with_reducible refine Below.setCell ?_ (by first | (simp; done) | (simp; omega)) _))⟩
end Go.Proofs.YtjacdlglbjnoeaaGreatDoor
