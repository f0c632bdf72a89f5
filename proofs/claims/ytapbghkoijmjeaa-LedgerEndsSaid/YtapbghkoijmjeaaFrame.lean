/- The frame of the statements: a function that returns true for every input, and leaves what was there as it was, has its row. -/
import Derived.Test.YtapbghkoijmjeaaRows
import Derived.Test.YtapbghkoijmjeaaOps
import Derived.ProofKit
import Derived.LaidMore
import Derived.LaidHandle
import Derived.LaidLaws
import Derived.HandedShaped
import Derived.Stop.Joined
import Derived.Below
import Derived.ChangeSame
import Derived.OpenShut
import Derived.Lib.LaidTab
import Derived.Lay
import Derived.Carry
import Derived.Deep.Slices
import Derived.SizedLaws
namespace Go.Proofs.Ytapbghkoijmjeaa
set_option linter.unusedVariables false
set_option linter.unusedSimpArgs false
open Go.ChangeShapes Go.WideShapes Go.ChangeAt Go.RowKit Go.Deep
open Go.ChangeMaps (open_string shut_string)

section
variable {H : Type} {enc : TypeId × Value → H} {P : Program}
theorem post_of_below {f : Func} {s : ChangeSpec} {apart fresh handsOn again : Bool} {W W' : World} {args : Array Value} {v : Value} {ds gs : List (DataW H)} {before pa pv : List MemPlace}
    (hW : DataW.Whole enc P f.params.toList s.vars apart W args.toList ds gs before)
    (hres : ∀ (b : Nat) (sp : Nat → Bool) (hd : Bool), DataW.TrodAll enc P W' b sp hd f.resultTypes.toList (v.resultList f.resultTypes.size) (s.fn H (ds ++ gs)).results [])
    (hargs : ∀ sp : Nat → Bool, (∀ p ∈ before, sp p.block = true) → DataW.TrodAll enc P W' 0 sp true f.params.toList args.toList (s.fn H (ds ++ gs)).args pa)
    (hvars : ∀ sp : Nat → Bool, (∀ p ∈ before, sp p.block = true) → DataW.TrodVars enc P W' sp s.vars (s.fn H (ds ++ gs)).vars pv)
    (hps : before = pa ++ pv) (hb : Below W.heap.size W W')
    (hok : ∀ (j : Nat) (t : TypeId) (r : Value), f.resultTypes[j]? = some t → (v.resultList f.resultTypes.size)[j]? = some r → Value.okWide P W' .any 0 t r) :
    s.post enc P f apart fresh handsOn again W args v W' := by
  have hlt : ∀ p ∈ before, p.block < W.heap.size := fun p hp => hW.lt p hp
  have hold : ∀ p ∈ before, (fun b => decide (b < W.heap.size)) p.block = true := fun p hp => by simpa using hlt p hp
  refine ⟨ds, gs, before, [], pa, pv, hW, hres _ _ _, hargs _ hold, hvars _ hold, World.keptBut_mono (fun p hp => ⟨hp, ?_⟩) (hb.frame (· ∈ before)), fun _ => ?_⟩
  · rw [hps, List.mem_append] at hp
    exact Or.inr hp
  · obtain ⟨_, _, _, _, _, hz, hn⟩ := hW
    refine ⟨hok, _, _, ([] ++ pa) ++ pv, ⟨[] ++ pa, pv, trodAll_append (hargs _ (fun _ _ => rfl)) (hres _ _ _), hvars _ (fun _ _ => rfl), rfl, ?_, ?_⟩, ?_⟩
    · intro b off hp
      have hin : MemPlace.cell b off ∈ before := by rw [hps]; simpa using hp
      rw [hb.frozen (hlt _ hin)]
      exact hz b off hin
    · intro ha
      have := hn ha
      rw [hps] at this
      simpa using this
    · intro p hp _
      rw [hps]
      simpa using hp
end

theorem own_ : ownKnob Try.prog.godebug = none := by kernel_rfl
theorem laidOut : laidOutB Try.prog = true := by kernel_rfl
theorem cells3 : Try.prog.cellsOf 3 = 1 := by kernel_rfl
theorem cells30 : Try.prog.cellsOf 30 = 3 := by kernel_rfl
section
variable {H : Type} {enc : TypeId × Value → H} {w : World} {base b0 : Nat} {sp : Nat → Bool} {held : Bool}
set_option maxRecDepth 100000 in
theorem op_of_trod {cs : List Value} {m : Nat} {x : DataW H × List MemPlace} (h : DataW.trod enc Try.prog w base sp held m 30 cs = some x) (hlen : cs.length = 3) :
    ∃ o : Op, cs = opCells o := by
  obtain ⟨c0, c1, c2, rfl⟩ : ∃ c0 c1 c2, cs = [c0, c1, c2] := by
    match cs, hlen with
    | [c0, c1, c2], _ => exact ⟨c0, c1, c2, rfl⟩
  obtain ⟨xs, m1, _, _, _, hl, hel⟩ := DataW.trod_struct Try.underlying30 h
  obtain ⟨x0, x1, x2, rfl⟩ : ∃ x0 x1 x2, xs = [x0, x1, x2] := by
    have hl' : xs.length = 3 := hl
    match xs, hl' with
    | [x0, x1, x2], _ => exact ⟨x0, x1, x2, rfl⟩
  have e0 : DataW.trod enc Try.prog w base sp held m1 3 (([c0, c1, c2].drop 0).take (Try.prog.cellsOf 3)) = some x0 := hel 0 _ rfl
  have e1 : DataW.trod enc Try.prog w base sp held m1 3 (([c0, c1, c2].drop 1).take (Try.prog.cellsOf 3)) = some x1 := hel 1 _ rfl
  have e2 : DataW.trod enc Try.prog w base sp held m1 3 (([c0, c1, c2].drop 2).take (Try.prog.cellsOf 3)) = some x2 := hel 2 _ rfl
  rw [cells3] at e0 e1 e2
  obtain ⟨kd, h0, _, _⟩ := DataW.trod_int Try.underlying3 e0
  obtain ⟨t, h1, _, _⟩ := DataW.trod_int Try.underlying3 e1
  obtain ⟨p, h2, _, _⟩ := DataW.trod_int Try.underlying3 e2
  simp at h0 h1 h2
  subst h0 h1 h2
  exact ⟨⟨kd, t, p⟩, rfl⟩
end

theorem list_of_each {α : Type} {Q : Nat → α → Prop} : ∀ n : Nat, (∀ i, i < n → ∃ x, Q i x) → ∃ L : List α, L.length = n ∧ ∀ i (h : i < L.length), Q i (L[i]'h)
  | 0, _ => ⟨[], rfl, fun i h => by cases h⟩
  | n + 1, h => by
    obtain ⟨L, hl, hL⟩ := list_of_each n fun i hi => h i (by omega)
    obtain ⟨x, hx⟩ := h n (by omega)
    refine ⟨L ++ [x], by simp [hl], fun i hi => ?_⟩
    by_cases he : i < L.length
    · rw [List.getElem_append_left he]; exact hL i he
    · have e : i = n := by simp at hi; omega
      subst e
      rw [List.getElem_append_right (by omega)]
      simpa [hl] using hx

/-- A list of calls in memory. -/
structure OpsIn (W : World) (p : Option Addr) (cap : Nat) (L : List Op) : Prop where
  le : L.length ≤ cap
  cap : cap ≤ maxLen
  at_ : 0 < L.length → ∃ ab ao, p = some ⟨ab, ao, none⟩ ∧ ab < W.heap.size ∧ ∀ (i : Nat) (x : Op), L[i]? = some x → ∀ (j : Nat) (u : Value), (opCells x)[j]? = some u → W.cell? ⟨ab, ao + (i * 3 + j), none⟩ = some u
def OpsArg (W : World) (v : Value) : Prop := ∃ p cap L, v = .slice p L.length cap ∧ OpsIn W p cap L

theorem OpsIn.cells {W W' : World} {p : Option Addr} {cap : Nat} {L : List Op} (h : OpsIn W p cap L) {i : Nat} {x : Op} (hx : L[i]? = some x) (hb : Below W.heap.size W W') :
    ∃ ab ao, p = some ⟨ab, ao, none⟩ ∧ ab < W.heap.size ∧ W'.cell? ⟨ab, ao + i * 3, none⟩ = some (.int .i64 x.kd) ∧ W'.cell? ⟨ab, ao + i * 3 + 1, none⟩ = some (.int .i64 x.task) ∧ W'.cell? ⟨ab, ao + i * 3 + 2, none⟩ = some (.int .i64 x.what) := by
  have hi : i < L.length := (List.getElem?_eq_some_iff.1 hx).1
  obtain ⟨ab, ao, h1, h2, h3⟩ := h.at_ (by omega)
  refine ⟨ab, ao, h1, h2, ?_, ?_, ?_⟩
  · exact (hb.cell (p := ⟨ab, ao + i * 3, none⟩) h2).trans (h3 i x hx 0 _ rfl)
  · exact (hb.cell (p := ⟨ab, ao + i * 3 + 1, none⟩) h2).trans (h3 i x hx 1 _ rfl)
  · exact (hb.cell (p := ⟨ab, ao + i * 3 + 2, none⟩) h2).trans (h3 i x hx 2 _ rfl)

set_option maxRecDepth 100000 in
theorem open_ops {H : Type} {enc : TypeId × Value → H} {W : World} {base : Nat} {v : Value} {d : DataW H} {p : List MemPlace} (hv : Value.okWide Try.prog W .any base 22 v) (h : DataW.Trod enc Try.prog W 0 (fun _ => true) true 22 v d p) : OpsArg W v := by
  obtain ⟨a0, len0, cap0, rfl⟩ := okWide_slice Try.underlying22 hv
  obtain ⟨fuel, hf⟩ := h
  rcases open_slice Try.underlying22 hf with ⟨hcs, _⟩ | ⟨a, len, cap, m, n, D, Pl, hcs, _, hl, hm, hmm, hx, hi⟩
  · have e : Value.slice a0 len0 cap0 = .slice none 0 0 := by simpa [Value.cells] using hcs
    rw [e]
    exact ⟨none, 0, [], rfl, Nat.le_refl _, Nat.zero_le _, by simp⟩
  · have hcs' : Value.slice a0 len0 cap0 = .slice (some a) len cap := by simpa [Value.cells] using hcs
    have each : ∀ i, i < len → ∃ x : Op, ∀ j u, (opCells x)[j]? = some u → W.cell? (a.add (i * 3 + j)) = some u := by
      intro i hil
      have hmc : m = cap := by simpa using hmm
      obtain ⟨cs, hc, ht⟩ := hi i (by omega)
      rw [cells30] at hc
      obtain ⟨_, hlen, hat⟩ := World.cells?_some hc
      obtain ⟨o, ho⟩ := op_of_trod ht hlen
      refine ⟨o, fun j u hu => ?_⟩
      have hj : j < 3 := (List.getElem?_eq_some_iff.1 hu).1
      have g := hat j (by omega)
      rw [Go.Deep.add_add] at g
      rw [g, ho]
      exact hu
    obtain ⟨L, hL, hLQ⟩ := list_of_each len each
    rw [hcs', ← hL]
    refine ⟨some a, cap, L, rfl, by omega, hm, fun hp => ?_⟩
    · obtain ⟨ab, ao, sp⟩ := a
      have h0 := hLQ 0 hp 0 _ rfl
      have hsp : sp = none := by
        cases sp with
        | none => rfl
        | some q =>
          exfalso
          have : (Addr.add ⟨ab, ao, some q⟩ (0 * 3 + 0)).spot.isSome = true := by unfold Addr.add; simp
          unfold World.cell? at h0
          split at h0
          · rw [if_pos this] at h0; cases h0
          · cases h0
      subst hsp
      refine ⟨ab, ao, rfl, ?_, fun i x hix j u hu => ?_⟩
      · have := World.block_lt_of_cell? W _ h0
        rw [add_off] at this
        exact this
      · obtain ⟨hi', rfl⟩ := List.getElem?_eq_some_iff.1 hix
        have := hLQ i hi' j u hu
        rw [add_off] at this
        exact this
end Go.Proofs.Ytapbghkoijmjeaa
