/- The small functions that make values and outcomes: what each returns, in every memory. -/
import Derived.WalkKit
import Derived.WalkLawsBesides
import Derived.WalkSpells
import Derived.BigQuiet
import Derived.Deep.QuietTactic
import Derived.Lib.Hide
import Derived.IntWalk
import Derived.Test.YtjacdlglbjnoeaaGreatDoorProg
namespace Go.Proofs.YtjacdlglbjnoeaaGreatDoor
open Go.RowKit

/-- A value of the program. -/
abbrev valV (k n : Int) (s : ByteArray) : Value := .agg #[.int .i64 k, .int .i64 n, .string s]
/-- An outcome: a value and a fault. -/
abbrev outV (k n : Int) (s : ByteArray) (fk : Int) (ft : ByteArray) : Value := .agg #[.int .i64 k, .int .i64 n, .string s, .int .i64 fk, .string ft]
abbrev noS : ByteArray := ⟨#[]⟩

theorem bcell {W w1 : World} (hb : Below W.heap.size W w1) : (∀ b o, b < W.heap.size → w1.cell? ⟨b, o, none⟩ = W.cell? ⟨b, o, none⟩) ∧ (∀ b o, b < W.heap.size → w1.frozen? ⟨b, o, none⟩ = W.frozen? ⟨b, o, none⟩) :=
  ⟨fun b o h => hb.cell (p := ⟨b, o, none⟩) h, fun b o h => hb.frozen (p := ⟨b, o, none⟩) h⟩

theorem one (w : World) (o : Obj) : Below w.heap.size w (w.alloc o) := (Below.refl _ _).alloc (Nat.le_refl _) _

theorem grown {w w1 : World} {o : Obj} (hb : Below (w.alloc o).heap.size (w.alloc o) w1) : Below w.heap.size w w1 ∧ w.heap.size < w1.heap.size := by
  have h1 := hb.size
  have h2 : (w.alloc o).heap.size = w.heap.size + 1 := by simp
  exact ⟨(one w o).trans (hb.mono (one w o).size), by omega⟩

theorem number_any (n : Int) (w : World) : Calls Tryz.prog 81 #[.int .i64 n] w fun e w' => e = .returned (valV 1 n noS) ∧ Below w.heap.size w w' := by
  go_enter Tryz.func81, Tryz.ntmps81
  go_wp2
  exact bodyPost_ret (v := valV 1 n noS) (by simp [results, Tryz.results81, go_sem]) rfl ⟨rfl, one _ _⟩

theorem truth_any (b : Bool) (w : World) : Calls Tryz.prog 79 #[.bool b] w fun e w' => e = .returned (valV 2 (if b then 1 else 0) noS) ∧ Below w.heap.size w w' := by
  cases b <;>
  · go_enter Tryz.func79, Tryz.ntmps79
    go_wp2
    exact bodyPost_ret (v := valV 2 _ noS) (by simp [results, Tryz.results79, go_sem]) rfl ⟨rfl, one _ _⟩

theorem fault_any (s : ByteArray) (w : World) : Calls Tryz.prog 78 #[.string s] w fun e w' => e = .returned (outV 0 0 noS 1 s) ∧ Below w.heap.size w w' := by
  go_enter Tryz.func78, Tryz.ntmps78
  go_wp2
  exact bodyPost_ret (v := outV 0 0 noS 1 s) (by simp [results, Tryz.results78, go_sem]) rfl ⟨rfl, one _ _⟩
end Go.Proofs.YtjacdlglbjnoeaaGreatDoor
