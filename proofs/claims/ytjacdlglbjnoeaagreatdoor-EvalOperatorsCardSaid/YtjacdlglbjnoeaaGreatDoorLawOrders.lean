/- EvalOrders: where the values are not two numbers or two texts. -/
import Derived.Test.YtjacdlglbjnoeaaGreatDoorAwake
import Derived.Test.YtjacdlglbjnoeaaGreatDoorKValid
namespace Go.Proofs.YtjacdlglbjnoeaaGreatDoor
open Go.RowKit

/-- The condition under which nothing is compared. -/
def skipB (k n : Int) (s : ByteArray) (k' n' : Int) (s' : ByteArray) : Bool := !(validB k n s && validB k' n' s' && k == k' && (k == 1 || k == 3))

/-- What two values and the rest read as, after other calls. -/
theorem keep2V {w w1 : World} {a b c d e f : Value} {t u : TypeId} (hb0 : Below ((w.alloc (.cells #[a, b, c] t)).alloc (.cells #[d, e, f] u)).heap.size ((w.alloc (.cells #[a, b, c] t)).alloc (.cells #[d, e, f] u)) w1) :
    Below w.heap.size w w1 ∧ w.heap.size < w1.heap.size ∧ w.heap.size + 1 < w1.heap.size ∧ w1.cell? ⟨w.heap.size, 0, none⟩ = some a ∧ w1.cell? ⟨w.heap.size, 1, none⟩ = some b ∧ w1.cell? ⟨w.heap.size, 2, none⟩ = some c ∧
    w1.cell? ⟨w.heap.size + 1, 0, none⟩ = some d ∧ w1.cell? ⟨w.heap.size + 1, 1, none⟩ = some e ∧ w1.cell? ⟨w.heap.size + 1, 2, none⟩ = some f := by
  have hs : ((w.alloc (.cells #[a, b, c] t)).alloc (.cells #[d, e, f] u)).heap.size = w.heap.size + 2 := by simp
  have hz := hb0.size
  have h3 : Below w.heap.size w ((w.alloc (.cells #[a, b, c] t)).alloc (.cells #[d, e, f] u)) := (one w _).alloc (by simp) _
  have k0 : ∀ o, w1.cell? ⟨w.heap.size, o, none⟩ = #[a, b, c][o]? := fun o =>
    ((hb0.cell (p := ⟨w.heap.size, o, none⟩) (by show w.heap.size < _; omega)).trans ((one (w.alloc (.cells #[a, b, c] t)) _).cell (p := ⟨w.heap.size, o, none⟩) (by simp))).trans (World.cell?_alloc_at _ _ _ _ rfl)
  have k1 : ∀ o, w1.cell? ⟨w.heap.size + 1, o, none⟩ = #[d, e, f][o]? := fun o =>
    (hb0.cell (p := ⟨w.heap.size + 1, o, none⟩) (by show w.heap.size + 1 < _; omega)).trans (World.cell?_alloc_at _ _ _ _ (by simp))
  exact ⟨h3.trans (hb0.mono h3.size), by omega, by omega, k0 0, k0 1, k0 2, k1 0, k1 1, k1 2⟩

set_option maxRecDepth 100000 in
set_option maxHeartbeats 2000000 in
theorem orders_skip (k n : Int) (s : ByteArray) (k' n' : Int) (s' : ByteArray) (w : World) (hs : s.size ≤ 9223372036854775807) (hs' : s'.size ≤ 9223372036854775807) (hh : Hand w) (h : skipB k n s k' n' s' = true) :
    Calls Tryz.prog 13 #[valV k n s, valV k' n' s'] w fun e w' => e = .returned (.bool true) ∧ Below w.heap.size w w' := by
  have A := fun w => kvalid_any k n s w hs
  have B := fun w => kvalid_any k' n' s' w hs'
  unfold skipB at h
  generalize validB k n s = r1 at A h
  generalize validB k' n' s' = r2 at B h
  have AA := Lib.hid A
  have BB := Lib.hid B
  have HH := Lib.hid hh
  clear A B hh hs hs'
  cases r1
  · clear BB h
    go_enter Tryz.func13, Tryz.ntmps13
    go_wp2_with fail
    refine (AA.out _).mono ?_
    rintro e w1 ⟨rfl, hb⟩
    obtain ⟨hg1, z0, z1, a0, a1, a2, a3, a4, a5⟩ := keep2V hb
    clear hb
    go_wp2_with fail
    refine (awake_any _ (HH.out.below hg1)).mono ?_
    rintro e w2 ⟨rfl, hb2⟩
    go_wp2
    go_ret
    exact ⟨rfl, then2 hg1 hb2⟩
  cases r2
  · clear h
    go_enter Tryz.func13, Tryz.ntmps13
    go_wp2_with fail
    refine (AA.out _).mono ?_
    rintro e w1 ⟨rfl, hb⟩
    obtain ⟨hg1, z0, z1, a0, a1, a2, a3, a4, a5⟩ := keep2V hb
    clear hb
    go_wp2_with fail
    refine (BB.out _).mono ?_
    rintro e w2 ⟨rfl, hb2⟩
    have hg2 := then2 hg1 hb2
    clear hb2
    go_wp2_with fail
    refine (awake_any _ (HH.out.below hg2)).mono ?_
    rintro e w3 ⟨rfl, hb3⟩
    go_wp2
    go_ret
    exact ⟨rfl, then2 hg2 hb3⟩
  by_cases hk : k = k'
  · subst hk
    have h1 : ¬ k = 1 := fun e => by simp [e] at h
    have h3 : ¬ k = 3 := fun e => by simp [e] at h
    have h1' : (k != 1) = true := by simpa using h1
    have h3' : (k != 3) = true := by simpa using h3
    clear h
    go_enter Tryz.func13, Tryz.ntmps13
    go_wp2_with fail
    refine (AA.out _).mono ?_
    rintro e w1 ⟨rfl, hb⟩
    obtain ⟨hg1, z0, z1, a0, a1, a2, a3, a4, a5⟩ := keep2V hb
    clear hb
    go_wp2_with fail
    refine (BB.out _).mono ?_
    rintro e w2 ⟨rfl, hb2⟩
    have hg2 := then2 hg1 hb2
    replace a0 := cell_of hb2 a0
    replace a3 := cell_of hb2 a3
    clear hb2
    go_wp2_with fail
    refine (awake_any _ (HH.out.below hg2)).mono ?_
    rintro e w3 ⟨rfl, hb3⟩
    go_wp2
    go_ret
    exact ⟨rfl, then2 hg2 hb3⟩
  · have hk' : (k != k') = true := by simpa using hk
    clear h
    go_enter Tryz.func13, Tryz.ntmps13
    go_wp2_with fail
    refine (AA.out _).mono ?_
    rintro e w1 ⟨rfl, hb⟩
    obtain ⟨hg1, z0, z1, a0, a1, a2, a3, a4, a5⟩ := keep2V hb
    clear hb
    go_wp2_with fail
    refine (BB.out _).mono ?_
    rintro e w2 ⟨rfl, hb2⟩
    have hg2 := then2 hg1 hb2
    replace a0 := cell_of hb2 a0
    replace a3 := cell_of hb2 a3
    clear hb2
    go_wp2_with fail
    refine (awake_any _ (HH.out.below hg2)).mono ?_
    rintro e w3 ⟨rfl, hb3⟩
    go_wp2
    go_ret
    exact ⟨rfl, then2 hg2 hb3⟩
end Go.Proofs.YtjacdlglbjnoeaaGreatDoor
