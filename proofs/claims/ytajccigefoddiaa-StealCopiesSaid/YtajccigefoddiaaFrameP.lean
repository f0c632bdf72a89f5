/- A plan, as an argument. -/
import Derived.Test.YtajccigefoddiaaFrame
import Derived.Test.YtajccigefoddiaaMade
namespace Go.Proofs.Ytajccigefoddiaa
set_option linter.unusedVariables false
set_option linter.unusedSimpArgs false
open Go.ChangeShapes Go.WideShapes Go.ChangeAt Go.RowKit Go.Deep
set_option maxRecDepth 100000 in
theorem open_intsC {H : Type} {enc : TypeId × Value → H} {W : World} {m0 : Nat} {cs0 : List Value} {x0 : DataW H × List MemPlace} (hf : DataW.trod enc Try.prog W 0 (fun _ => true) true m0 22 cs0 = some x0) : ∃ v, cs0 = [v] ∧ IntsArg W v := by
  rcases open_slice Try.underlying22 hf with ⟨hcs, _⟩ | ⟨a, len, cap, m, n, D, Pl, hcs, _, hl, hm, hmm, hx, hi⟩
  · exact ⟨_, hcs, none, 0, [], rfl, Nat.le_refl _, Nat.zero_le _, fun h => by simp at h⟩
  · refine ⟨_, hcs, ?_⟩
    have each : ∀ i, i < len → ∃ x : Int, W.cell? (a.add i) = some (.int .i64 x) := by
      intro i hil
      have hmc : m = cap := by simpa using hmm
      obtain ⟨cs, hc, ht⟩ := hi i (by omega)
      rw [cells3] at hc
      obtain ⟨_, hlen, hat⟩ := World.cells?_some hc
      obtain ⟨c0, rfl⟩ : ∃ c0, cs = [c0] := by
        match cs, hlen with
        | [c0], _ => exact ⟨c0, rfl⟩
      obtain ⟨kd, h0, _, _⟩ := DataW.trod_int Try.underlying3 ht
      simp at h0
      subst h0
      have g := hat 0 (by omega)
      rw [Go.Deep.add_add] at g
      exact ⟨kd, by simpa using g⟩
    obtain ⟨L, hL, hLQ⟩ := list_of_each len each
    rw [← hL]
    refine ⟨some a, cap, L, rfl, by omega, hm, fun hp => ?_⟩
    obtain ⟨ab, ao, sp⟩ := a
    have h0 := hLQ 0 hp
    have hsp : sp = none := by
      cases sp with
      | none => rfl
      | some q =>
        exfalso
        have : (Addr.add ⟨ab, ao, some q⟩ 0).spot.isSome = true := by unfold Addr.add; simp
        unfold World.cell? at h0
        split at h0
        · rw [if_pos this] at h0; cases h0
        · cases h0
    subst hsp
    refine ⟨ab, ao, rfl, ?_, fun j hj => ?_⟩
    · have := World.block_lt_of_cell? W _ h0
      rw [add_off] at this
      exact this
    · have := hLQ j hj
      rw [add_off] at this
      rw [this, List.getD_eq_getElem?_getD, List.getElem?_eq_getElem hj]; rfl
theorem cells24 : Try.prog.cellsOf 24 = 3 := by kernel_rfl
def PlanArg (W : World) (v : Value) : Prop := ∃ r p q cp cq lo lt, v = planV r p q lo.length lt.length cp cq ∧ PlanIn W r p q cp cq lo lt
set_option maxRecDepth 100000 in
theorem open_plan {H : Type} {enc : TypeId × Value → H} {W : World} {base : Nat} {v : Value} {d : DataW H} {p : List MemPlace} (hv : Value.okWide Try.prog W .any base 24 v) (hd : DataW.Trod enc Try.prog W 0 (fun _ => true) true 24 v d p) : PlanArg W v := by
  obtain ⟨cs, rfl, hsz⟩ := okWide_struct Try.underlying24 hv
  rw [cells24] at hsz
  obtain ⟨l⟩ := cs
  match l, hsz with
  | [c0, c1, c2], _ =>
    obtain ⟨fuel, hf⟩ := hd
    obtain ⟨xs, m, _, hx, _, hl, hel⟩ := DataW.trod_struct Try.underlying24 hf
    match xs, hl with
    | [x0, x1, x2], _ =>
      have e0 : DataW.trod enc Try.prog W 0 (fun _ => true) true m 3 (([c0, c1, c2].drop 0).take (Try.prog.cellsOf 3)) = some x0 := hel 0 _ rfl
      have e1 : DataW.trod enc Try.prog W 0 (fun _ => true) true m 22 (([c0, c1, c2].drop 1).take (Try.prog.cellsOf 22)) = some x1 := hel 1 _ rfl
      have e2 : DataW.trod enc Try.prog W 0 (fun _ => true) true m 22 (([c0, c1, c2].drop 2).take (Try.prog.cellsOf 22)) = some x2 := hel 2 _ rfl
      rw [cells3] at e0
      rw [cells22] at e1 e2
      obtain ⟨k, h0, hx0, wk⟩ := DataW.trod_int Try.underlying3 e0
      obtain ⟨v1, h1, p1, k1, l1, rfl, a1, a2, a3⟩ := open_intsC e1
      obtain ⟨v2, h2, p2, k2, l2, rfl, b1, b2, b3⟩ := open_intsC e2
      simp at h0 h1 h2
      subst h0 h1 h2
      exact ⟨k, p1, p2, k1, k2, l1, l2, rfl, a1, a2, b1, b2, a3, b3⟩
end Go.Proofs.Ytajccigefoddiaa
