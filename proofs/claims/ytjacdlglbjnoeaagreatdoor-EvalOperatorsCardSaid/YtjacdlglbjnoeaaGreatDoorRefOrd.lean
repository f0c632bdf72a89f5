/- The reference's order of numbers and texts; what is kept while Binary of the reference runs. -/
import Derived.Test.YtjacdlglbjnoeaaGreatDoorRefNum
namespace Go.Proofs.YtjacdlglbjnoeaaGreatDoor
open Go.RowKit

theorem frz {w w1 : World} {b o : Nat} {v : Value} (h : Below w.heap.size w w1) (hc : w.cell? ⟨b, o, none⟩ = some v) (hf : w.frozen? ⟨b, o, none⟩ = false) : w1.frozen? ⟨b, o, none⟩ = false :=
  (h.frozen (p := ⟨b, o, none⟩) (World.block_lt_of_cell? _ _ hc)).trans hf

theorem rorder_int (x y : Int) (w : World) : Calls Tryz.prog 54 #[valV 1 x noS, valV 1 y noS] w fun e w' => e = .returned (.int .i64 (cmpI x y)) ∧ Below w.heap.size w w' := by
  by_cases h1 : x < y
  · rw [show cmpI x y = -1 from if_pos h1]
    go_enter Tryz.func54, Tryz.ntmps54
    go_wp2
    go_ret
    exact ⟨rfl, (one _ _).alloc (by simp) _⟩
  · by_cases h2 : y < x
    · rw [show cmpI x y = 1 from by unfold cmpI; rw [if_neg h1, if_pos h2]]
      go_enter Tryz.func54, Tryz.ntmps54
      go_wp2
      go_ret
      exact ⟨rfl, (one _ _).alloc (by simp) _⟩
    · rw [show cmpI x y = 0 from by unfold cmpI; rw [if_neg h1, if_neg h2]]
      go_enter Tryz.func54, Tryz.ntmps54
      go_wp2
      go_ret
      exact ⟨rfl, (one _ _).alloc (by simp) _⟩
theorem rorder_text (x y : ByteArray) (w : World) : Calls Tryz.prog 54 #[valV 3 0 x, valV 3 0 y] w fun e w' => e = .returned (.int .i64 (cmpS x y)) ∧ Below w.heap.size w w' := by
  cases h1 : Op.bytesLess x.toList y.toList
  · cases h2 : (x.toList == y.toList)
    · rw [show cmpS x y = 1 from by unfold cmpS; rw [h1, h2]; rfl]
      go_enter Tryz.func54, Tryz.ntmps54
      go_wp2
      go_ret
      exact ⟨rfl, (one _ _).alloc (by simp) _⟩
    · rw [show cmpS x y = 0 from by unfold cmpS; rw [h1, h2]; rfl]
      go_enter Tryz.func54, Tryz.ntmps54
      go_wp2
      go_ret
      exact ⟨rfl, (one _ _).alloc (by simp) _⟩
  · rw [show cmpS x y = -1 from by unfold cmpS; rw [h1]; rfl]
    go_enter Tryz.func54, Tryz.ntmps54
    go_wp2
    go_ret
    exact ⟨rfl, (one _ _).alloc (by simp) _⟩

/-- What the reference's Binary keeps: the two values, and the results' variables. -/
structure Kept4 (w X : World) (k n : Int) (s : ByteArray) (k' n' : Int) (s' : ByteArray) : Prop where
  below : Below w.heap.size w X
  v0 : X.cell? ⟨w.heap.size, 0, none⟩ = some (.int .i64 k)
  v1 : X.cell? ⟨w.heap.size, 1, none⟩ = some (.int .i64 n)
  v2 : X.cell? ⟨w.heap.size, 2, none⟩ = some (.string s)
  u0 : X.cell? ⟨w.heap.size + 1, 0, none⟩ = some (.int .i64 k')
  u1 : X.cell? ⟨w.heap.size + 1, 1, none⟩ = some (.int .i64 n')
  u2 : X.cell? ⟨w.heap.size + 1, 2, none⟩ = some (.string s')
  r0 : X.cell? ⟨w.heap.size + 1 + 1, 0, none⟩ = some (.int .i64 0)
  r1 : X.cell? ⟨w.heap.size + 1 + 1, 1, none⟩ = some (.int .i64 0)
  r2 : X.cell? ⟨w.heap.size + 1 + 1, 2, none⟩ = some (.string noS)
  t0 : X.cell? ⟨w.heap.size + 1 + 1 + 1, 0, none⟩ = some (.int .i64 0)
  t1 : X.cell? ⟨w.heap.size + 1 + 1 + 1, 1, none⟩ = some (.string noS)
  f0 : X.frozen? ⟨w.heap.size + 1 + 1, 0, none⟩ = false
  f1 : X.frozen? ⟨w.heap.size + 1 + 1, 1, none⟩ = false
  f2 : X.frozen? ⟨w.heap.size + 1 + 1, 2, none⟩ = false
  g0 : X.frozen? ⟨w.heap.size + 1 + 1 + 1, 0, none⟩ = false
  g1 : X.frozen? ⟨w.heap.size + 1 + 1 + 1, 1, none⟩ = false

theorem Kept4.later {w X Y : World} {k n : Int} {s : ByteArray} {k' n' : Int} {s' : ByteArray} (h : Kept4 w X k n s k' n' s') (hb : Below X.heap.size X Y) : Kept4 w Y k n s k' n' s' :=
  ⟨then2 h.below hb, cell_of hb h.v0, cell_of hb h.v1, cell_of hb h.v2, cell_of hb h.u0, cell_of hb h.u1, cell_of hb h.u2, cell_of hb h.r0, cell_of hb h.r1, cell_of hb h.r2, cell_of hb h.t0, cell_of hb h.t1,
    frz hb h.r0 h.f0, frz hb h.r1 h.f1, frz hb h.r2 h.f2, frz hb h.t0 h.g0, frz hb h.t1 h.g1⟩

theorem Kept4.start (w : World) (k n : Int) (s : ByteArray) (k' n' : Int) (s' : ByteArray) :
    Kept4 w ((((w.alloc (.cells #[.int .i64 k, .int .i64 n, .string s] 29)).alloc (.cells #[.int .i64 k', .int .i64 n', .string s'] 29)).alloc (.cells #[.int .i64 0, .int .i64 0, .string noS] 29)).alloc (.cells #[.int .i64 0, .string noS] 31)) k n s k' n' s' := by
  refine ⟨(((one w _).alloc (by simp) _).alloc (by simp; omega) _).alloc (by simp; omega) _, ?_, ?_, ?_, ?_, ?_, ?_, ?_, ?_, ?_, ?_, ?_, ?_, ?_, ?_, ?_, ?_⟩ <;> simp [go_sem]
end Go.Proofs.YtjacdlglbjnoeaaGreatDoor
