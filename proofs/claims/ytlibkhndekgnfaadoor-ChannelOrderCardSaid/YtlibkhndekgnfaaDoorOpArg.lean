/- Calls as arguments: what can be read of them before the call. -/
import Derived.Test.YtlibkhndekgnfaaDoorFrame
namespace Go.Proofs.YtlibkhndekgnfaaDoor
open Go.ChangeShapes Go.WideShapes Go.ChangeAt Go.RowKit Go.Deep
open Go.ChangeMaps (open_string shut_string)

/-- A call. -/
structure Op where
  kd : Int
  t : Int
  send : Bool
  v : Cn.V
def opCells (o : Op) : List Value := [.int .i64 o.kd, .int .i64 o.t, .bool o.send, .int .i64 o.v.k, .int .i64 o.v.n, .string o.v.s]

section
variable {H : Type} {enc : TypeId × Value → H} {w : World} {base b0 : Nat} {sp : Nat → Bool} {held : Bool}

set_option maxRecDepth 100000 in
theorem op_of_trod {cs : List Value} {m : Nat} {x : DataW H × List MemPlace} (h : DataW.trod enc Tryd.prog w base sp held m 39 cs = some x) (hlen : cs.length = 6) :
    ∃ o : Op, cs = opCells o ∧ o.v.s.size ≤ maxLen := by
  obtain ⟨c0, c1, c2, c3, c4, c5, rfl⟩ : ∃ c0 c1 c2 c3 c4 c5, cs = [c0, c1, c2, c3, c4, c5] := by
    match cs, hlen with
    | [c0, c1, c2, c3, c4, c5], _ => exact ⟨c0, c1, c2, c3, c4, c5, rfl⟩
  obtain ⟨xs, m1, _, _, _, hl, hel⟩ := DataW.trod_struct Tryd.underlying39 h
  obtain ⟨x0, x1, x2, x3, rfl⟩ : ∃ x0 x1 x2 x3, xs = [x0, x1, x2, x3] := by
    have hl' : xs.length = 4 := hl
    match xs, hl' with
    | [x0, x1, x2, x3], _ => exact ⟨x0, x1, x2, x3, rfl⟩
  have e0 : DataW.trod enc Tryd.prog w base sp held m1 3 (([c0, c1, c2, c3, c4, c5].drop 0).take (Tryd.prog.cellsOf 3)) = some x0 := hel 0 _ rfl
  have e1 : DataW.trod enc Tryd.prog w base sp held m1 3 (([c0, c1, c2, c3, c4, c5].drop 1).take (Tryd.prog.cellsOf 3)) = some x1 := hel 1 _ rfl
  have e2 : DataW.trod enc Tryd.prog w base sp held m1 4 (([c0, c1, c2, c3, c4, c5].drop 2).take (Tryd.prog.cellsOf 4)) = some x2 := hel 2 _ rfl
  have e3 : DataW.trod enc Tryd.prog w base sp held m1 37 (([c0, c1, c2, c3, c4, c5].drop 3).take (Tryd.prog.cellsOf 37)) = some x3 := hel 3 _ rfl
  rw [cells3] at e0 e1
  rw [cells4] at e2
  rw [cells37] at e3
  obtain ⟨kd, h0, _, _⟩ := DataW.trod_int Tryd.underlying3 e0
  obtain ⟨t, h1, _, _⟩ := DataW.trod_int Tryd.underlying3 e1
  obtain ⟨b, h2, _⟩ := DataW.trod_bool Tryd.underlying4 e2
  obtain ⟨ys, m2, _, _, _, hl2, hel2⟩ := DataW.trod_struct Tryd.underlying37 e3
  obtain ⟨y0, y1, y2, rfl⟩ : ∃ y0 y1 y2, ys = [y0, y1, y2] := by
    have hl' : ys.length = 3 := hl2
    match ys, hl' with
    | [y0, y1, y2], _ => exact ⟨y0, y1, y2, rfl⟩
  have g0 : DataW.trod enc Tryd.prog w base sp held m2 3 (((([c0, c1, c2, c3, c4, c5] : List Value).drop 3).take 3 |>.drop 0).take (Tryd.prog.cellsOf 3)) = some y0 := hel2 0 _ rfl
  have g1 : DataW.trod enc Tryd.prog w base sp held m2 3 (((([c0, c1, c2, c3, c4, c5] : List Value).drop 3).take 3 |>.drop 1).take (Tryd.prog.cellsOf 3)) = some y1 := hel2 1 _ rfl
  have g2 : DataW.trod enc Tryd.prog w base sp held m2 9 (((([c0, c1, c2, c3, c4, c5] : List Value).drop 3).take 3 |>.drop 2).take (Tryd.prog.cellsOf 9)) = some y2 := hel2 2 _ rfl
  rw [cells3] at g0 g1
  rw [cells9] at g2
  obtain ⟨k, h3, _, _⟩ := DataW.trod_int Tryd.underlying3 g0
  obtain ⟨n, h4, _, _⟩ := DataW.trod_int Tryd.underlying3 g1
  obtain ⟨s, h5, _, ws⟩ := DataW.trod_string Tryd.underlying9 g2
  simp at h0 h1 h2 h3 h4 h5
  subst h0 h1 h2 h3 h4 h5
  exact ⟨⟨kd, t, b, ⟨k, n, s⟩⟩, rfl, ws⟩

set_option maxRecDepth 100000 in
theorem open_op {v : Value} {d : DataW H} {ps : List MemPlace} {r : Reach} (hval : Value.okWide Tryd.prog w r b0 39 v) (hd : DataW.Trod enc Tryd.prog w base sp held 39 v d ps) :
    ∃ o : Op, v = .agg (opCells o).toArray ∧ o.v.s.size ≤ maxLen := by
  obtain ⟨cs, rfl, hsz⟩ := okWide_struct Tryd.underlying39 hval
  rw [cells39] at hsz
  obtain ⟨fuel, hf⟩ := hd
  obtain ⟨o, ho, hs⟩ := op_of_trod hf (by simpa [Value.cells] using hsz)
  refine ⟨o, ?_, hs⟩
  have : cs.toList = opCells o := by simpa [Value.cells] using ho
  rw [← this]
end

/-- A list of calls that came in. -/
def OpsArg (W : World) (v : Value) : Prop :=
  v = .slice none 0 0 ∨ ∃ (a : Addr) (len cap : Nat) (L : List Op), v = .slice (some a) len cap ∧ len ≤ cap ∧ cap ≤ maxLen ∧ L.length = len ∧ (∀ x ∈ L, x.v.s.size ≤ maxLen) ∧ ∀ i x, L[i]? = some x → ∀ j u, (opCells x)[j]? = some u → W.cell? (a.add (i * 6 + j)) = some u

theorem list_of_each {α : Type} {Q : Nat → α → Prop} : ∀ n : Nat, (∀ i, i < n → ∃ x, Q i x) → ∃ L : List α, L.length = n ∧ ∀ i (h : i < L.length), Q i (L[i]'h)
  | 0, _ => ⟨[], rfl, fun i h => by cases h⟩
  | n + 1, h => by
    obtain ⟨L, hl, hL⟩ := list_of_each n fun i hi => h i (by omega)
    obtain ⟨x, hx⟩ := h n (by omega)
    refine ⟨L ++ [x], by simp [hl], fun i hi => ?_⟩
    by_cases he : i < L.length
    · rw [List.getElem_append_left he]; exact hL i he
    · have e : i = n := by simp at hi; omega
      subst e
      rw [List.getElem_append_right (by omega)]
      simpa [hl] using hx

set_option maxRecDepth 100000 in
theorem open_ops {H : Type} {enc : TypeId × Value → H} {W : World} {base : Nat} {v : Value} {d : DataW H} {p : List MemPlace} (hv : Value.okWide Tryd.prog W .any base 22 v) (h : DataW.Trod enc Tryd.prog W 0 (fun _ => true) true 22 v d p) : OpsArg W v := by
  obtain ⟨a0, len0, cap0, rfl⟩ := okWide_slice Tryd.underlying22 hv
  obtain ⟨fuel, hf⟩ := h
  rcases open_slice Tryd.underlying22 hf with ⟨hcs, _⟩ | ⟨a, len, cap, m, n, D, Pl, hcs, _, hl, hm, hmm, hx, hi⟩
  · left
    simpa [Value.cells] using hcs
  · right
    have hcs' : Value.slice a0 len0 cap0 = .slice (some a) len cap := by simpa [Value.cells] using hcs
    have each : ∀ i, i < len → ∃ x : Op, x.v.s.size ≤ maxLen ∧ ∀ j u, (opCells x)[j]? = some u → W.cell? (a.add (i * 6 + j)) = some u := by
      intro i hil
      have hmc : m = cap := by simpa using hmm
      obtain ⟨cs, hc, ht⟩ := hi i (by omega)
      rw [cells39] at hc
      obtain ⟨_, hlen, hat⟩ := World.cells?_some hc
      obtain ⟨o, ho, hs⟩ := op_of_trod ht hlen
      refine ⟨o, hs, fun j u hu => ?_⟩
      have hj : j < 6 := (List.getElem?_eq_some_iff.1 hu).1
      have g := hat j (by omega)
      rw [Go.Deep.add_add] at g
      rw [g, ho]
      exact hu
    obtain ⟨L, hL, hLQ⟩ := list_of_each len each
    refine ⟨a, len, cap, L, hcs', hl, hm, hL, fun x hx => ?_, fun i x hix j u hu => ?_⟩
    · obtain ⟨i, hi', rfl⟩ := List.mem_iff_getElem.1 hx
      exact (hLQ i hi').1
    · obtain ⟨hi', rfl⟩ := List.getElem?_eq_some_iff.1 hix
      exact (hLQ i hi').2 j u hu
end Go.Proofs.YtlibkhndekgnfaaDoor
