/- A list of calls that came in, in one form. -/
import Derived.Test.YtlibkhndekgnfaaDoorRun
namespace Go.Proofs.YtlibkhndekgnfaaDoor
open Go.RowKit Go.Deep

/-- A list of calls in memory. -/
structure OpsIn (W : World) (p : Option Addr) (cap : Nat) (L : List Op) : Prop where
  le : L.length ≤ cap
  cap : cap ≤ maxLen
  ok : ∀ x ∈ L, x.v.s.size ≤ maxLen
  at_ : 0 < L.length → ∃ ab ao, p = some ⟨ab, ao, none⟩ ∧ ab < W.heap.size ∧ ∀ i x, L[i]? = some x → ∀ j u, (opCells x)[j]? = some u → W.cell? ⟨ab, ao + (i * 6 + j), none⟩ = some u

theorem OpsArg.opsIn {W : World} {v : Value} (h : OpsArg W v) : ∃ p cap L, v = .slice p L.length cap ∧ OpsIn W p cap L ∧ (p = none → cap = 0) := by
  rcases h with rfl | ⟨a, len, cap, L, rfl, h1, h2, rfl, h4, h5⟩
  · exact ⟨none, 0, [], rfl, ⟨Nat.le_refl _, Nat.zero_le _, by simp, by simp⟩, fun _ => rfl⟩
  · refine ⟨some a, cap, L, rfl, ⟨h1, h2, h4, fun hl => ?_⟩, fun h => by cases h⟩
    obtain ⟨ab, ao, sp⟩ := a
    obtain ⟨x, hx⟩ : ∃ x, L[0]? = some x := ⟨_, List.getElem?_eq_getElem hl⟩
    have h0 := h5 0 x hx 0 _ rfl
    cases sp with
    | some q =>
      exfalso
      have : (Addr.add ⟨ab, ao, some q⟩ (0 * 6 + 0)).spot.isSome = true := by unfold Addr.add; simp
      unfold World.cell? at h0
      split at h0
      · rw [if_pos this] at h0; cases h0
      · cases h0
    | none =>
      refine ⟨ab, ao, rfl, ?_, fun i y hy j u hu => ?_⟩
      · have e : (Addr.add ⟨ab, ao, none⟩ (0 * 6 + 0)) = ⟨ab, ao, none⟩ := by rw [Addr.add_mid]; rfl
        rw [e] at h0
        exact World.block_lt_of_cell? _ _ h0
      · have := h5 i y hy j u hu
        rwa [Addr.add_mid] at this

/-- The cells of a call of the list. -/
theorem OpsIn.cells {W W' : World} {p : Option Addr} {cap : Nat} {L : List Op} (h : OpsIn W p cap L) {i : Nat} {x : Op} (hx : L[i]? = some x) (hb : Below W.heap.size W W') :
    ∃ ab ao, p = some ⟨ab, ao, none⟩ ∧ ab < W.heap.size ∧ W'.cell? ⟨ab, ao + i * 6, none⟩ = some (.int .i64 x.kd) ∧ W'.cell? ⟨ab, ao + i * 6 + 1, none⟩ = some (.int .i64 x.t) ∧ W'.cell? ⟨ab, ao + i * 6 + 2, none⟩ = some (.bool x.send) ∧
      W'.cell? ⟨ab, ao + i * 6 + 3, none⟩ = some (.int .i64 x.v.k) ∧ W'.cell? ⟨ab, ao + i * 6 + 4, none⟩ = some (.int .i64 x.v.n) ∧ W'.cell? ⟨ab, ao + i * 6 + 5, none⟩ = some (.string x.v.s) ∧ x.v.s.size ≤ 9223372036854775807 := by
  have hl : i < L.length := (List.getElem?_eq_some_iff.1 hx).1
  obtain ⟨ab, ao, hp, hlt, hc⟩ := h.at_ (by omega)
  have c := fun j u hu => cell_of hb (hc i x hx j u hu)
  have hm : maxLen ≤ 9223372036854775807 := by decide
  exact ⟨ab, ao, hp, hlt, c 0 _ rfl, c 1 _ rfl, c 2 _ rfl, c 3 _ rfl, c 4 _ rfl, c 5 _ rfl, Nat.le_trans (h.ok x (List.mem_of_getElem? hx)) hm⟩
end Go.Proofs.YtlibkhndekgnfaaDoor
