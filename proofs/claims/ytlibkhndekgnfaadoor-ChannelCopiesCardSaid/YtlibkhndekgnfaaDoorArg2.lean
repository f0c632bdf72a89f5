/- A room, and a list of truth values, as arguments. -/
import Derived.Test.YtlibkhndekgnfaaDoorOpArg
namespace Go.Proofs.YtlibkhndekgnfaaDoor
open Go.ChangeShapes Go.WideShapes Go.ChangeAt Go.RowKit Go.Deep
open Go.ChangeMaps (open_string shut_string)

theorem cells63 : Tryd.prog.cellsOf 63 = 2 := by kernel_rfl
section
variable {H : Type} {enc : TypeId × Value → H} {w : World} {base b0 : Nat} {sp : Nat → Bool} {held : Bool}
set_option maxRecDepth 100000 in
theorem open_room {v : Value} {d : DataW H} {ps : List MemPlace} {r : Reach} (hval : Value.okWide Tryd.prog w r b0 63 v) (hd : DataW.Trod enc Tryd.prog w base sp held 63 v d ps) :
    ∃ x y : Int, v = .agg #[.int .i64 x, .int .i64 y] ∧ (Lit.int .i64 x).wf = true ∧ (Lit.int .i64 y).wf = true := by
  obtain ⟨cs, rfl, hsz⟩ := okWide_struct Tryd.underlying63 hval
  rw [cells63] at hsz
  obtain ⟨l⟩ := cs
  match l, hsz with
  | [c0, c1], _ =>
    obtain ⟨fuel, hf⟩ := hd
    obtain ⟨xs, m, _, _, _, hl, hel⟩ := DataW.trod_struct Tryd.underlying63 hf
    obtain ⟨x0, x1, rfl⟩ : ∃ x0 x1, xs = [x0, x1] := by
      have hl' : xs.length = 2 := hl
      match xs, hl' with
      | [x0, x1], _ => exact ⟨x0, x1, rfl⟩
    have e0 : DataW.trod enc Tryd.prog w base sp held m 3 (([c0, c1].drop 0).take (Tryd.prog.cellsOf 3)) = some x0 := hel 0 _ rfl
    have e1 : DataW.trod enc Tryd.prog w base sp held m 3 (([c0, c1].drop 1).take (Tryd.prog.cellsOf 3)) = some x1 := hel 1 _ rfl
    rw [cells3] at e0 e1
    obtain ⟨k, h0, _, wk⟩ := DataW.trod_int Tryd.underlying3 e0
    obtain ⟨n, h1, _, wn⟩ := DataW.trod_int Tryd.underlying3 e1
    simp [] at h0 h1
    subst h0 h1
    exact ⟨k, n, rfl, wk, wn⟩
end
end Go.Proofs.YtlibkhndekgnfaaDoor
