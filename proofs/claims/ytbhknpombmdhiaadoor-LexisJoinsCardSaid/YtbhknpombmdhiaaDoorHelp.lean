/- Small facts about memory and strings that the walks of the scanner use. -/
import Derived.WalkSmall
import Derived.Test.YtbhknpombmdhiaaDoorNum
namespace Go.Proofs.YtbhknpombmdhiaaDoor
open Go.RowKit

theorem size_of_cell {w : World} {S o : Nat} {v : Value} (h : w.cell? ⟨S, o, none⟩ = some v) : S < w.heap.size := by
  unfold World.cell? at h
  cases ho : w.heap[S]? with
  | none => simp [ho] at h
  | some ob => exact (Array.getElem?_eq_some_iff.1 ho).1
theorem rest_list (src : ByteArray) (a : Nat) : (src.extract a src.size).data.toList = src.data.toList.drop a := by
  simp only [ByteArray.data_extract, Array.toList_extract, List.extract_eq_take_drop]
  exact List.take_of_length_le (by simp)
theorem rest_size (src : ByteArray) (a : Nat) : (src.extract a src.size).size = src.size - a := by simp
theorem head_list (r : ByteArray) (n : Nat) : (r.extract 0 n).data.toList = r.data.toList.take n := by
  simp [ByteArray.data_extract]

theorem keep3 {w w1 : World} {a b c : Value} {t : TypeId} {n : Nat} (hb0 : Below ((w.alloc (.cells #[a, b, c] t)).drewN n).heap.size ((w.alloc (.cells #[a, b, c] t)).drewN n) w1) :
    w1.cell? ⟨w.heap.size, 0, none⟩ = some a ∧ w1.cell? ⟨w.heap.size, 1, none⟩ = some b ∧ w1.cell? ⟨w.heap.size, 2, none⟩ = some c ∧
    w1.frozen? ⟨w.heap.size, 0, none⟩ = false ∧ w1.frozen? ⟨w.heap.size, 1, none⟩ = false ∧ w1.frozen? ⟨w.heap.size, 2, none⟩ = false ∧ w.heap.size < w1.heap.size := by
  have hb : Below (w.heap.size + 1) ((w.alloc (.cells #[a, b, c] t)).drewN n) w1 := hb0.mono (Nat.le_of_eq (World.size_alloc _ _).symm)
  have hlt : w.heap.size < w.heap.size + 1 := by omega
  have hc := fun o => hb.cell (p := ⟨w.heap.size, o, none⟩) hlt
  have hf := fun o => hb.frozen (p := ⟨w.heap.size, o, none⟩) hlt
  have hz := hb.size
  have hc' : ∀ o, w1.cell? ⟨w.heap.size, o, none⟩ = #[a, b, c][o]? := fun o => (hc o).trans (World.cell?_alloc_at _ _ _ _ rfl)
  have hf' : ∀ o, w1.frozen? ⟨w.heap.size, o, none⟩ = false := fun o => (hf o).trans (World.frozen?_alloc_at _ _ _ _ rfl)
  refine ⟨hc' 0, hc' 1, hc' 2, hf' 0, hf' 1, hf' 2, ?_⟩
  have hz' : w.heap.size + 1 ≤ w1.heap.size := Nat.le_trans (Nat.le_of_eq (World.size_alloc _ _).symm) hz
  omega

/-- A token as the readers hand it back, and how many bytes it has. -/
def tokV : Option (Int × List UInt8 × Nat) → Value
  | none => .tuple #[.agg #[.int .i64 0, .string ⟨#[]⟩, .int .i64 0], .int .i64 0]
  | some (k, t, n) => .tuple #[.agg #[.int .i64 k, .string ⟨t.toArray⟩, .int .i64 0], .int .i64 n]

theorem new1 (w : World) (o : Obj) (n : Nat) : Below w.heap.size w ((w.alloc o).drewN n) := _root_.Go.below_drewN ((Below.refl _ _).alloc (Nat.le_refl _) _) _
theorem new1_then {w w1 : World} {o : Obj} {n : Nat} (h : Below ((w.alloc o).drewN n).heap.size ((w.alloc o).drewN n) w1) : Below w.heap.size w w1 := (new1 w o n).trans (h.mono (new1 w o n).size)

end Go.Proofs.YtbhknpombmdhiaaDoor
