/- EvalShows returns true for all inputs. -/
import Derived.Test.YtjacdlglbjnoeaaGreatDoorShowR
import Derived.Test.YtjacdlglbjnoeaaGreatDoorAwake
namespace Go.Proofs.YtjacdlglbjnoeaaGreatDoor
open Go.RowKit

set_option maxRecDepth 100000 in
set_option maxHeartbeats 2000000 in
theorem law_shows_bad (k n : Int) (s : ByteArray) (w : World) (hs : s.size ≤ 9223372036854775807) (hv : validB k n s = false) (hh : HandT w) :
    Calls Tryz.prog 6 #[valV k n s] w fun e w' => e = .returned (.bool true) ∧ Below w.heap.size w w' := by
  have A := Lib.hid (fun w => showR_bad k n s w hs hv)
  have B := fun w => kvalid_any k n s w hs
  rw [hv] at B
  have BB := Lib.hid B
  have HH := Lib.hid hh
  clear B hv hh hs
  go_enter Tryz.func6, Tryz.ntmps6
  go_wp2_with fail
  refine (A.out _).mono ?_
  rintro e w1 ⟨rfl, hb1⟩
  obtain ⟨hg1, z0⟩ := grown hb1
  obtain ⟨hc, hf⟩ := bcell hb1
  go_wp2_with fail
  refine (BB.out _).mono ?_
  rintro e w2 ⟨rfl, hb2⟩
  have hg2 := then2 hg1 hb2
  obtain ⟨hc2, hf2⟩ := bcell hb2
  go_wp2_with fail
  refine (awake_any _ (HH.out.1.below hg2)).mono ?_
  rintro e w3 ⟨rfl, hb3⟩
  have hg3 := then2 hg2 hb3
  go_wp2
  go_ret
  exact ⟨rfl, hg3⟩

set_option maxRecDepth 100000 in
set_option maxHeartbeats 2000000 in
theorem law_shows_ok (k n : Int) (s : ByteArray) (w : World) (hs : s.size ≤ 9223372036854775807) (hv : validB k n s = true) (hh : HandT w) :
    Calls Tryz.prog 6 #[valV k n s] w fun e w' => e = .returned (.bool true) ∧ Below w.heap.size w w' := by
  have A := Lib.hid (fun w1 (hb : Below w.heap.size w w1) => showR_ok k n s w1 hs hv (hh.below hb))
  have B := fun w => kvalid_any k n s w hs
  have C := Lib.hid (fun w1 => rshow_any k n s w1 hv)
  rw [hv] at B
  have BB := Lib.hid B
  have HH := Lib.hid hh
  clear B hv hh hs
  generalize showS k n s = q at A C
  have heq : (q.toList == q.toList) = true := by simp
  go_enter Tryz.func6, Tryz.ntmps6
  go_wp2_with fail
  refine (A.out _ (one _ _)).mono ?_
  rintro e w1 ⟨rfl, hb1⟩
  obtain ⟨hg1, z0⟩ := grown hb1
  obtain ⟨hc, hf⟩ := bcell hb1
  go_wp2_with fail
  refine (BB.out _).mono ?_
  rintro e w2 ⟨rfl, hb2⟩
  have hg2 := then2 hg1 hb2
  obtain ⟨hc2, hf2⟩ := bcell hb2
  have z2 := hb2.size
  have z02 : w.heap.size < w2.heap.size := by omega
  go_wp2_with fail
  refine (C.out _).mono ?_
  rintro e w3 ⟨rfl, hb3⟩
  have hg3 := then2 hg2 hb3
  obtain ⟨hc3, hf3⟩ := bcell hb3
  go_wp2_with fail
  refine (awake_any _ (HH.out.1.below hg3)).mono ?_
  rintro e w4 ⟨rfl, hb4⟩
  have hg4 := then2 hg3 hb4
  go_wp2
  go_ret
  exact ⟨rfl, hg4⟩

theorem law_shows_c (k n : Int) (s : ByteArray) (w : World) (_ : (Lit.int .i64 k).wf = true) (_ : (Lit.int .i64 n).wf = true) (hs : s.size ≤ maxLen) (hh : HandT w) :
    Calls Tryz.prog 6 #[valV k n s] w fun e w' => e = .returned (.bool true) ∧ Below w.heap.size w w' := by
  unfold maxLen at hs
  cases hv : validB k n s
  · exact law_shows_bad k n s w hs hv hh
  · exact law_shows_ok k n s w hs hv hh
end Go.Proofs.YtjacdlglbjnoeaaGreatDoor
