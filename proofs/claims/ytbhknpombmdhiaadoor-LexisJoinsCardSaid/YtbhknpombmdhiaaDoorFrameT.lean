/- The frame of a statement over a list of tokens: what can be read of such a list before the call, and that it reads so behind it. -/
import Derived.Test.YtbhknpombmdhiaaDoorFrame
import Derived.Test.YtbhknpombmdhiaaDoorLawJoins
import Derived.Carry
import Derived.Deep.Slices
import Derived.SizedLaws
namespace Go.Proofs.YtbhknpombmdhiaaDoor
open Go.ChangeShapes Go.WideShapes Go.ChangeAt Go.RowKit Go.Deep

theorem laidOut : laidOutB Tryd.prog = true := by kernel_rfl

/-- The wrap with a condition on the memory, the shape of the world, and how much memory the input takes. -/
theorem handed_sized {H : Type} {enc : TypeId × Value → H} {a : Assume} {C : Checked} {os : Os} {f : FuncId} {fn : Func} {s : ChangeSpec} {conds : List PathCond} {apart fresh handsOn again : Bool} {X : World → Array Value → Prop}
    (hX : ∀ (w w' : World) (args : Array Value), w.heap = w'.heap → X w args → X w' args)
    (own : ownKnob C.prog.godebug = none) (started : os.Started) (noInit : C.prog.inits.idxOf? f = none) (hfn : C.prog.funcs[f]? = some fn)
    (witness : ∃ (w : World) (tape : Tape) (i : Input), w.os = os ∧ (w.forCall tape i).Shaped C.prog ∧ i.vars = [] ∧ Input.okWide C.prog (w.forCall tape i) .any w.heap.size f i ∧
      ((s.pre enc C.prog fn conds apart (w.forCall tape i).memory i.args ∧ X (w.forCall tape i).memory i.args) ∧ sizedMet enc C.prog fn (OpenSpec.ofChange s) apart (w.forCall tape i).memory i.args) ∧ a.holds C.prog (lone (Frame.enter C.prog f i.args .normal) [] (w.forCall tape i)))
    (contract : ∀ (W : World) (base : Nat) (args : Array Value) (ds gs : List (DataW H)) (before : List MemPlace),
      (∀ (j : Nat) t v, fn.params[j]? = some t → args[j]? = some v → Value.okWide C.prog W .any base t v) →
      DataW.Whole enc C.prog fn.params.toList s.vars apart W args.toList ds gs before →
      (DataW.weightsEach C.prog (fn.params.toList ++ s.plain.varTypes C.prog) (ds ++ gs)).all (· ≤ reachBytes) = true →
      W.ShapedOpen C.prog → X W args →
      Calls C.prog f args W fun e W' => ∃ v, e = .returned v ∧ s.post enc C.prog fn apart fresh handsOn again W args v W') :
    ReturnsInHanded a C os f .any (fun w args => (s.pre enc C.prog fn conds apart w args ∧ X w args) ∧ sizedMet enc C.prog fn (OpenSpec.ofChange s) apart w args) (s.post enc C.prog fn apart fresh handsOn again) := by
  refine returnsInHanded_of_calls own started noInit witness ?_
  intro w tape i _ hsh _ hok hpre _
  obtain ⟨_, _, _, fn', hfn', _, _, _, _, hval⟩ := hok
  have e : fn' = fn := Option.some.inj (hfn'.symm.trans hfn)
  subst e
  obtain ⟨⟨⟨ds, gs, before, hw, _⟩, hx⟩, hz⟩ := hpre
  have hw' := DataW.Whole.of_heap (w' := w.forCall tape i) (by rfl) hw
  refine (contract (w.forCall tape i) w.heap.size i.args ds gs before hval hw' (hz.weights hw) hsh (hX _ _ _ (by rfl) hx)).mono fun e W' ⟨v, he, hp⟩ => ?_
  subst he
  exact ChangeSpec.post_blind hp

section
variable {H : Type} {P : Program}
theorem mem_weightsAll {e : TypeId} : ∀ {l : List (DataW H)} {d : DataW H}, d ∈ l → ∀ n ∈ d.weights P e, n ∈ DataW.weightsAll P e l
  | [], _, h, _, _ => nomatch h
  | c :: l, d, h, n, hn => by
    simp only [DataW.weightsAll, List.mem_append]
    rcases List.mem_cons.1 h with rfl | h
    · exact .inl hn
    · exact .inr (mem_weightsAll h n hn)
end

theorem list_of_each {α : Type} {Q : Nat → α → Prop} : ∀ n : Nat, (∀ i, i < n → ∃ x, Q i x) → ∃ L : List α, L.length = n ∧ ∀ i (h : i < L.length), Q i (L[i]'h)
  | 0, _ => ⟨[], rfl, fun i h => by cases h⟩
  | n + 1, h => by
    obtain ⟨L, hl, hL⟩ := list_of_each n fun i hi => h i (by omega)
    obtain ⟨x, hx⟩ := h n (by omega)
    refine ⟨L ++ [x], by simp [hl], fun i hi => ?_⟩
    by_cases he : i < L.length
    · rw [List.getElem_append_left he]; exact hL i he
    · have e : i = n := by simp at hi; omega
      subst e
      rw [List.getElem_append_right (by omega)]
      simpa [hl] using hx

/-- A list of tokens that came in. -/
def TokArg (W : World) (v : Value) : Prop :=
  v = .slice none 0 0 ∨ ∃ (a : Addr) (len cap : Nat) (L : List T3), v = .slice (some a) len cap ∧ len ≤ cap ∧ cap ≤ maxLen ∧ L.length = len ∧ (∀ x ∈ L, x.2.1.size ≤ 140737488355327) ∧ ∀ j u, (cellsI L)[j]? = some u → W.cell? (a.add j) = some u

set_option maxRecDepth 100000 in
theorem open_tokens {H : Type} {enc : TypeId × Value → H} {W : World} {base : Nat} {v : Value} {d : DataW H} {p : List MemPlace} (hv : Value.okWide Tryd.prog W .any base 23 v) (h : DataW.Trod enc Tryd.prog W 0 (fun _ => true) true 23 v d p)
    (hz : ∀ n ∈ d.weights Tryd.prog 23, n ≤ reachBytes) : TokArg W v := by
  obtain ⟨a0, len0, cap0, rfl⟩ := okWide_slice Tryd.underlying23 hv
  obtain ⟨fuel, hf⟩ := h
  rcases open_slice Tryd.underlying23 hf with ⟨hcs, _⟩ | ⟨a, len, cap, m, n, D, Pl, hcs, _, hl, hm, hmm, hx, hi⟩
  · left
    simpa [Value.cells] using hcs
  · right
    have hcs' : Value.slice a0 len0 cap0 = .slice (some a) len cap := by simpa [Value.cells] using hcs
    have hd : d = .slice ((List.range len).map D) ((List.range (m - len)).map fun j => D (len + j)) := by
      have := congrArg Prod.fst hx; exact this
    have hmc : m = cap := by simpa using hmm
    have each : ∀ i, i < len → ∃ x : T3, x.2.1.size ≤ 140737488355327 ∧ W.cell? (a.add (i * 3)) = some (.int .i64 x.1) ∧ W.cell? (a.add (i * 3 + 1)) = some (.string x.2.1) ∧ W.cell? (a.add (i * 3 + 2)) = some (.int .i64 x.2.2) := by
      intro i hil
      obtain ⟨cs, hc, ht⟩ := hi i (by omega)
      have hC : Tryd.prog.cellsOf 47 = 3 := by kernel_rfl
      rw [hC] at hc
      obtain ⟨_, hlen, hat⟩ := World.cells?_some hc
      obtain ⟨ys, n', _, hy, _, hyl, hfs⟩ := DataW.trod_struct Tryd.underlying47 ht
      have hys : ys.length = 3 := hyl
      obtain ⟨y0, y1, y2, rfl⟩ : ∃ y0 y1 y2, ys = [y0, y1, y2] := by
        match ys, hys with
        | [y0, y1, y2], _ => exact ⟨y0, y1, y2, rfl⟩
      obtain ⟨c0, c1, c2, rfl⟩ : ∃ c0 c1 c2, cs = [c0, c1, c2] := by
        match cs, hlen with
        | [c0, c1, c2], _ => exact ⟨c0, c1, c2, rfl⟩
      have f0 : DataW.trod enc Tryd.prog W 0 (fun _ => true) true n' 3 [c0] = some y0 := hfs 0 _ rfl
      have f1 : DataW.trod enc Tryd.prog W 0 (fun _ => true) true n' 9 [c1] = some y1 := hfs 1 _ rfl
      have f2 : DataW.trod enc Tryd.prog W 0 (fun _ => true) true n' 3 [c2] = some y2 := hfs 2 _ rfl
      obtain ⟨k, hk, _, _⟩ := DataW.trod_int Tryd.underlying3 f0
      obtain ⟨s, hs, hy1, _⟩ := DataW.trod_string Tryd.underlying9 f1
      obtain ⟨q, hq, _, _⟩ := DataW.trod_int Tryd.underlying3 f2
      have e0 : c0 = .int .i64 k := by simpa using hk
      have e1 : c1 = .string s := by simpa using hs
      have e2 : c2 = .int .i64 q := by simpa using hq
      have g0 := hat 0 (by omega)
      have g1 := hat 1 (by omega)
      have g2 := hat 2 (by omega)
      rw [Go.Deep.add_add] at g0 g1 g2
      refine ⟨(k, s, q), ?_, ?_, ?_, ?_⟩
      · have hDi : D i = .agg [y0.1, y1.1, y2.1] := by
          have := congrArg Prod.fst hy; simpa using this
        have hw1 : s.data.toList.length ∈ (D i).weights Tryd.prog 47 := by
          rw [hDi]
          have hsub : (DataW.lit (.string s.data.toList) : DataW H).weights Tryd.prog 9 = [s.data.toList.length] := by simp [DataW.weights]
          have hmem : s.data.toList.length ∈ DataW.weightsEach Tryd.prog [3, 9, 3] [y0.1, y1.1, y2.1] := by
            refine DataW.weights_mem_each (j := 1) rfl rfl _ ?_
            rw [hy1, hsub]; simp
          simp only [DataW.weights, Tryd.underlying47]
          exact hmem
        have hw2 : s.data.toList.length ∈ d.weights Tryd.prog 23 := by
          rw [hd]
          simp only [DataW.weights, Tryd.underlying23]
          refine List.mem_cons_of_mem _ (List.mem_append_left _ (mem_weightsAll (List.mem_map.2 ⟨i, by simpa using hil, rfl⟩) _ hw1))
        have := hz _ hw2
        have h47 := reachBytes_lt
        rw [list_len] at this
        show s.size ≤ 140737488355327
        omega
      · rw [Nat.add_zero] at g0; rw [g0, e0]; rfl
      · rw [g1, e1]; rfl
      · rw [g2, e2]; rfl
    obtain ⟨L, hL, hLQ⟩ := list_of_each len each
    refine ⟨a, len, cap, L, hcs', hl, hm, hL, fun x hx => ?_, fun j u hu => ?_⟩
    · obtain ⟨i, hi', rfl⟩ := List.mem_iff_getElem.1 hx
      exact (hLQ i hi').1
    · have hj : j < (cellsI L).length := (List.getElem?_eq_some_iff.1 hu).1
      rw [cellsI_len] at hj
      have hi' : j / 3 < L.length := by omega
      obtain ⟨c0, c1, c2⟩ := cellsI_get L (j / 3) hi'
      obtain ⟨_, q0, q1, q2⟩ := hLQ (j / 3) hi'
      rcases (by omega : j = j / 3 * 3 ∨ j = j / 3 * 3 + 1 ∨ j = j / 3 * 3 + 2) with e | e | e
      · rw [e, c0] at hu; rw [e, q0]; exact hu
      · rw [e, c1] at hu; rw [e, q1]; exact hu
      · rw [e, c2] at hu; rw [e, q2]; exact hu

/-- The law at any list that came in. -/
theorem law_joins_arg (v : Value) (W : World) (h : TokArg W v) (henv : Env W) : Calls Tryd.prog 4 #[v] W fun e w' => e = .returned (.bool true) ∧ Below W.heap.size W w' := by
  rcases h with rfl | ⟨a, len, cap, L, rfl, hl, hm, hL, hx, hc⟩
  · exact law_joins _ [] 0 rfl (by omega) (fun x hx => by cases hx) W henv ((list_nil_any W).mono fun e w' ⟨he, hw⟩ => ⟨_, he, World.ownsRow_nil _ _ _ _, by rw [← hw]; exact Below.refl _ _⟩)
  · have hk : min len 2002 = (L.take (min len 2002)).length := by rw [List.length_take]; omega
    refine law_joins _ (L.take (min len 2002)) (min len 2002) hk (by omega) (fun x hx' => hx x (List.mem_of_mem_take hx')) W henv (listI_any (L.take (min len 2002)) len (min len 2002) rfl hk a cap hl hm W fun j u hu => hc j u ?_)
    have e : cellsI L = cellsI (L.take (min len 2002)) ++ cellsI (L.drop (min len 2002)) := by
      have : cellsI (L.take (min len 2002) ++ L.drop (min len 2002)) = cellsI (L.take (min len 2002)) ++ cellsI (L.drop (min len 2002)) := by unfold cellsI; rw [List.flatMap_append]
      rw [List.take_append_drop] at this; exact this
    rw [e, List.getElem?_append_left (List.getElem?_eq_some_iff.1 hu).1, hu]

end Go.Proofs.YtbhknpombmdhiaaDoor
