/- ChannelOrder: a list of truth values as an argument. -/
import Derived.Test.YtlibkhndekgnfaaDoorOrdUser
import Derived.Test.YtlibkhndekgnfaaDoorOpArg
import Derived.Deep.Grids
namespace Go.Proofs.YtlibkhndekgnfaaDoor
open Go.ChangeShapes Go.WideShapes Go.ChangeAt Go.RowKit Go.Deep

def BoolsArg (w : World) (v : Value) : Prop := ∃ q n cp B, v = .slice q n cp ∧ n ≤ cp ∧ cp ≤ maxLen ∧ BoolsIn w q n B

set_option maxRecDepth 100000 in
theorem open_bools {H : Type} {enc : TypeId × Value → H} {W : World} {base : Nat} {v : Value} {d : DataW H} {p : List MemPlace} (hv : Value.okWide Tryd.prog W .any base 65 v) (h : DataW.Trod enc Tryd.prog W 0 (fun _ => true) true 65 v d p) : BoolsArg W v := by
  obtain ⟨a0, len0, cap0, rfl⟩ := okWide_slice Tryd.underlying65 hv
  obtain ⟨fuel, hf⟩ := h
  rcases Go.Deep.open_bools Tryd.underlying65 Tryd.underlying4 cells4 hf with ⟨hcs, _⟩ | ⟨a, len, cap, B, hcs, _, hl, hm, _, hx⟩
  · have hcs' : Value.slice a0 len0 cap0 = .slice none 0 0 := by simpa [Value.cells] using hcs
    exact ⟨_, 0, 0, fun _ => false, hcs', Nat.le_refl _, Nat.zero_le _, ⟨fun h => absurd h (by simp)⟩⟩
  · have hcs' : Value.slice a0 len0 cap0 = .slice (some a) len cap := by simpa [Value.cells] using hcs
    refine ⟨_, len, cap, B, hcs', hl, hm, ⟨fun hp => ?_⟩⟩
    obtain ⟨ab, ao, sp⟩ := a
    have h0 := hx 0 (by omega)
    cases sp with
    | some q =>
      exfalso
      have : (Addr.add ⟨ab, ao, some q⟩ 0).spot.isSome = true := by unfold Addr.add; simp
      unfold World.cell? at h0
      split at h0
      · rw [if_pos this] at h0; cases h0
      · cases h0
    | none =>
      refine ⟨ab, ao, rfl, ?_, fun i hi => ?_⟩
      · have e : (Addr.add ⟨ab, ao, none⟩ 0) = ⟨ab, ao, none⟩ := by rw [Addr.add_mid]; rfl
        rw [e] at h0
        exact World.block_lt_of_cell? _ _ h0
      · have := hx i (by omega)
        rwa [Addr.add_mid] at this
end Go.Proofs.YtlibkhndekgnfaaDoor
