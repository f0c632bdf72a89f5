/- EvalValid returns true for all inputs. -/
import Derived.Test.YtjacdlglbjnoeaaGreatDoorAwake
import Derived.Test.YtjacdlglbjnoeaaGreatDoorKValid
import Derived.Deep.RegionHeld3
namespace Go.Proofs.YtjacdlglbjnoeaaGreatDoor
open Go.RowKit

theorem evalid_any (k n : Int) (s : ByteArray) (w : World) (hs : s.size ≤ 9223372036854775807) : Calls Tryz.prog 27 #[valV k n s] w (BPost (validB k n s) w) := by
  have K := fun w => valid_any k n s w hs
  generalize validB k n s = r at K ⊢
  have KK := Lib.hid K
  clear K
  go_enter Tryz.func27, Tryz.ntmps27
  go_wp2_with (go_at_call 56; refine (KK.out _).mono ?_; rintro e w1 ⟨rfl, hb⟩)
  go_ret
  exact ⟨rfl, (grown hb).1⟩

/-- Valid faults, by their kinds. -/
def vfaultB (k : Int) (s : ByteArray) : Bool := if k = 0 ∨ k = 2 then s.toList == [] else if k = 1 then textB s.data.toList else false

set_option maxHeartbeats 1000000 in
theorem vfault_any (k : Int) (s : ByteArray) (w : World) (hs : s.size ≤ 9223372036854775807) : Calls Tryz.prog 28 #[.agg #[.int .i64 k, .string s]] w (BPost (vfaultB k s) w) := by
  by_cases h0 : k = 0
  · subst h0
    rw [show vfaultB 0 s = s.toList.isEmpty from by simp [vfaultB]]
    go_enter Tryz.func28, Tryz.ntmps28
    go_wp2
    go_ret
    exact ⟨rfl, one _ _⟩
  by_cases h2 : k = 2
  · subst h2
    rw [show vfaultB 2 s = s.toList.isEmpty from by simp [vfaultB]]
    go_enter Tryz.func28, Tryz.ntmps28
    go_wp2
    go_ret
    exact ⟨rfl, one _ _⟩
  by_cases h1 : k = 1
  · subst h1
    rw [show vfaultB 1 s = textB s.data.toList from by simp [vfaultB]]
    go_enter Tryz.func28, Tryz.ntmps28
    go_wp2_with (go_at_call 57; refine (isText_any _ _ hs).mono ?_; rintro e w' ⟨rfl, rfl⟩)
    go_ret
    exact ⟨rfl, one _ _⟩
  · rw [show vfaultB k s = false from by simp [vfaultB, h0, h1, h2]]
    go_enter Tryz.func28, Tryz.ntmps28
    go_wp2
    go_ret
    exact ⟨rfl, one _ _⟩

set_option maxHeartbeats 1000000 in
theorem rfault_any (k : Int) (s : ByteArray) (w : World) (hs : s.size ≤ 9223372036854775807) : Calls Tryz.prog 29 #[.agg #[.int .i64 k, .string s]] w (BPost (vfaultB k s) w) := by
  by_cases h0 : k = 0
  · subst h0
    rw [show vfaultB 0 s = s.toList.isEmpty from by simp [vfaultB]]
    go_enter Tryz.func29, Tryz.ntmps29
    go_wp2
    go_ret
    exact ⟨rfl, one _ _⟩
  by_cases h2 : k = 2
  · subst h2
    rw [show vfaultB 2 s = s.toList.isEmpty from by simp [vfaultB]]
    go_enter Tryz.func29, Tryz.ntmps29
    go_wp2
    go_ret
    exact ⟨rfl, one _ _⟩
  by_cases h1 : k = 1
  · subst h1
    have K := fun w => kvalid_any 3 0 s w hs
    rw [show validB 3 0 s = textB s.data.toList from by simp [validB]] at K
    rw [show vfaultB 1 s = textB s.data.toList from by simp [vfaultB]]
    generalize textB s.data.toList = r at K ⊢
    have KK := Lib.hid K
    clear K
    go_enter Tryz.func29, Tryz.ntmps29
    go_wp2_with (go_at_call 23; refine (KK.out _).mono ?_; rintro e w1 ⟨rfl, hb⟩)
    go_ret
    exact ⟨rfl, (grown hb).1⟩
  · rw [show vfaultB k s = false from by simp [vfaultB, h0, h1, h2]]
    have h1' : (k == 1) = false := by simpa using h1
    go_enter Tryz.func29, Tryz.ntmps29
    go_wp2
    go_ret
    exact ⟨ret_bool (by first | rfl | simp [h1]), one _ _⟩

/-- What was there when the call began is as it was. -/
def ZS (w0 w : World) : Prop := Below w0.heap.size w0 w

theorem keep5 {F : Nat} {args : Array Value} {r : Bool} {w0 w : World} (p q : Nat) (k n : Int) (s : ByteArray) (fk : Int) (ft : ByteArray) (h : Calls Tryz.prog F args w (BPost r w)) (h0 : w.cell? ⟨p, 0, none⟩ = some (.int .i64 k)) (h1 : w.cell? ⟨p, 1, none⟩ = some (.int .i64 n)) (h2 : w.cell? ⟨p, 2, none⟩ = some (.string s))
    (h3 : w.cell? ⟨q, 0, none⟩ = some (.int .i64 fk)) (h4 : w.cell? ⟨q, 1, none⟩ = some (.string ft)) (hz : ZS w0 w) :
    Calls Tryz.prog F args w fun e w' => e = .returned (.bool r) ∧ w'.cell? ⟨p, 0, none⟩ = some (.int .i64 k) ∧ w'.cell? ⟨p, 1, none⟩ = some (.int .i64 n) ∧ w'.cell? ⟨p, 2, none⟩ = some (.string s) ∧ w'.cell? ⟨q, 0, none⟩ = some (.int .i64 fk) ∧ w'.cell? ⟨q, 1, none⟩ = some (.string ft) ∧ ZS w0 w' :=
  h.mono fun _ _ ⟨he, hb⟩ => ⟨he, cell_of hb h0, cell_of hb h1, cell_of hb h2, cell_of hb h3, cell_of hb h4, then2 hz hb⟩

set_option maxRecDepth 100000 in
set_option maxHeartbeats 2000000 in
theorem law_valid (k n : Int) (s : ByteArray) (fk : Int) (ft : ByteArray) (w : World) (hs : s.size ≤ 9223372036854775807) (ht : ft.size ≤ 9223372036854775807) (hh : Hand w) :
    Calls Tryz.prog 5 #[valV k n s, .agg #[.int .i64 fk, .string ft]] w fun e w' => e = .returned (.bool true) ∧ Below w.heap.size w w' := by
  have A := fun w => evalid_any k n s w hs
  have B := fun w => kvalid_any k n s w hs
  have C := fun w => vfault_any fk ft w ht
  have D := fun w => rfault_any fk ft w ht
  generalize validB k n s = r1 at A B
  generalize vfaultB fk ft = r2 at C D
  have AA := Lib.hid A
  have BB := Lib.hid B
  have CC := Lib.hid C
  have DD := Lib.hid D
  have HH := Lib.hid hh
  clear A B C D hh hs ht
  cases r1 <;> cases r2 <;>
  · go_enter Tryz.func5, Tryz.ntmps5
    go_wp2_with fail
    have hz0 : ZS w (((w.alloc (.cells #[.int .i64 k, .int .i64 n, .string s] 29)).alloc (.cells #[.int .i64 fk, .string ft] 31)).drew) := Below.drew ((one _ _).alloc (by simp) _)
    have i0 : (((w.alloc (.cells #[.int .i64 k, .int .i64 n, .string s] 29)).alloc (.cells #[.int .i64 fk, .string ft] 31)).drew).cell? ⟨w.heap.size, 0, none⟩ = some (.int .i64 k) := by simp
    have i1 : (((w.alloc (.cells #[.int .i64 k, .int .i64 n, .string s] 29)).alloc (.cells #[.int .i64 fk, .string ft] 31)).drew).cell? ⟨w.heap.size, 1, none⟩ = some (.int .i64 n) := by simp
    have i2 : (((w.alloc (.cells #[.int .i64 k, .int .i64 n, .string s] 29)).alloc (.cells #[.int .i64 fk, .string ft] 31)).drew).cell? ⟨w.heap.size, 2, none⟩ = some (.string s) := by simp
    have i3 : (((w.alloc (.cells #[.int .i64 k, .int .i64 n, .string s] 29)).alloc (.cells #[.int .i64 fk, .string ft] 31)).drew).cell? ⟨w.heap.size + 1, 0, none⟩ = some (.int .i64 fk) := by simp
    have i4 : (((w.alloc (.cells #[.int .i64 k, .int .i64 n, .string s] 29)).alloc (.cells #[.int .i64 fk, .string ft] 31)).drew).cell? ⟨w.heap.size + 1, 1, none⟩ = some (.string ft) := by simp
    go_region_held3 (fun w' => w'.cell? ⟨w.heap.size, 0, none⟩ = some (.int .i64 k) ∧ w'.cell? ⟨w.heap.size, 1, none⟩ = some (.int .i64 n) ∧ w'.cell? ⟨w.heap.size, 2, none⟩ = some (.string s) ∧ w'.cell? ⟨w.heap.size + 1, 0, none⟩ = some (.int .i64 fk) ∧ w'.cell? ⟨w.heap.size + 1, 1, none⟩ = some (.string ft) ∧ ZS w w')
      (first | exact ⟨i0, i1, i2, i3, i4, hz0⟩ | exact ⟨k0, k1, k2, k3, k4, kz⟩ | go_keep)
      (first
        | (go_at_call 27; refine (keep5 w.heap.size (w.heap.size + 1) k n s fk ft (AA.out _) (by assumption) (by assumption) (by assumption) (by assumption) (by assumption) (by assumption)).mono ?_; rintro e w5 ⟨rfl, k0, k1, k2, k3, k4, kz⟩)
        | (go_at_call 23; refine (keep5 w.heap.size (w.heap.size + 1) k n s fk ft (BB.out _) (by assumption) (by assumption) (by assumption) (by assumption) (by assumption) (by assumption)).mono ?_; rintro e w5 ⟨rfl, k0, k1, k2, k3, k4, kz⟩)
        | (go_at_call 28; refine (keep5 w.heap.size (w.heap.size + 1) k n s fk ft (CC.out _) (by assumption) (by assumption) (by assumption) (by assumption) (by assumption) (by assumption)).mono ?_; rintro e w5 ⟨rfl, k0, k1, k2, k3, k4, kz⟩)
        | (go_at_call 29; refine (keep5 w.heap.size (w.heap.size + 1) k n s fk ft (DD.out _) (by assumption) (by assumption) (by assumption) (by assumption) (by assumption) (by assumption)).mono ?_; rintro e w5 ⟨rfl, k0, k1, k2, k3, k4, kz⟩)
        | (go_at_call 18; refine (keep5 (r := true) (w0 := w) w.heap.size (w.heap.size + 1) k n s fk ft (awake_any _ (HH.out.below (by assumption))) (by assumption) (by assumption) (by assumption) (by assumption) (by assumption) (by assumption)).mono ?_; rintro e w5 ⟨rfl, k0, k1, k2, k3, k4, kz⟩))
    go_wp2
    go_ret
    exact ⟨rfl, kz⟩

theorem law_valid_c (k n : Int) (s : ByteArray) (fk : Int) (ft : ByteArray) (w : World) (_ : (Lit.int .i64 k).wf = true) (_ : (Lit.int .i64 n).wf = true) (hs : s.size ≤ maxLen) (_ : (Lit.int .i64 fk).wf = true) (ht : ft.size ≤ maxLen) (hh : Hand w) :
    Calls Tryz.prog 5 #[valV k n s, .agg #[.int .i64 fk, .string ft]] w fun e w' => e = .returned (.bool true) ∧ Below w.heap.size w w' := by
  unfold maxLen at hs ht
  exact law_valid k n s fk ft w hs ht hh
end Go.Proofs.YtjacdlglbjnoeaaGreatDoor
