/- A function that defers one call of a builtin. -/
import Derived.Test.YtpkldcnkadfhgaaFrame
import Derived.Defers
namespace Go.Proofs.Ytpkldcnkadfhgaa
open Go.RowKit

/-- What is done at the end: nothing, or the one deferred builtin. -/
def LeavesB (P : Program) (fn : Func) (tmps : Array Value) (R : Ending → World → Prop) (ds : List Deferred) (w : World) : Prop :=
  (ds = [] ∧ ∃ v, (results fn tmps).run P w = .ok v w ∧ R (.returned v) w) ∨
  (∃ b ts ty cs xs x w', ds = [{ target := .builtin b ts ty cs, args := xs }] ∧ (invoke (.builtin b ts ty cs) xs).run P w = .ok (.value x) w' ∧ ∃ v, (results fn tmps).run P w' = .ok v w' ∧ R (.returned v) w')
def bodyPostB (P : Program) (fn : Func) (R : Ending → World → Prop) : Exit → Act → World → Prop
  | .normal, a, w | .ret, a, w => LeavesB P fn a.tmps R a.defers w
  | .outgrown, _, w => R .outgrown w
  | _, _, _ => False

section
variable {P : Program}
theorem step_deferB {fr : Frame} {cs : List Frame} {w w' : World} {b : Builtin} {ts : Array TypeId} {ty : TypeId} {ks : Array Bool} {xs : Array Value} {x : Value} (hm : fr.mode = .returning) (hd : fr.defers = [{ target := .builtin b ts ty ks, args := xs }])
    (hi : (invoke (.builtin b ts ty ks) xs).run P w = .ok (.value x) w') : step P (lone fr cs w) = .next (lone { fr with defers := [] } cs w') := by
  refine step_lone_go ?_
  simp [stepG, unwind, callDeferred, hm, hd, hi]
theorem leavesB_steps {fn : Func} {tmps : Array Value} {R : Ending → World → Prop} (ds : List Deferred) (w : World) (fr : Frame) (cs : List Frame) (hu : fr.mode = .returning) (hd : fr.defers = ds) (ht : fr.tmps = tmps) (hf : P.funcs[fr.fn]? = some fn) (hk : fr.kind = .normal) (h : LeavesB P fn tmps R ds w) :
    ∃ e w' fr', R e w' ∧ Comes P (lone fr cs w) (lone fr' cs w') e ∧ fr'.fn = fr.fn ∧ fr'.leaving P w' e := by
  rcases h with ⟨rfl, v, hr, hR⟩ | ⟨b, ts, ty, ks, xs, x, w', rfl, hi, v, hr, hR⟩
  · exact ⟨.returned v, w, fr, hR, Steps.refl P _, rfl, hu, hd, hk, fn, hf, ht ▸ hr⟩
  · have h1 := step_deferB (cs := cs) hu hd hi
    exact ⟨.returned v, w', { fr with defers := [] }, hR, Comes.of_steps (.one h1) (Steps.refl P _), rfl, hu, rfl, hk, fn, hf, ht ▸ hr⟩
theorem calls_of_wp_deferB {f : FuncId} {fn : Func} {c : Code} {args : Array Value} {w : World} {R : Ending → World → Prop}
    (hf : P.funcs[f]? = some fn) (hb : fn.body = some c)
    (h : c.wp P (bodyPostB P fn R) { tmps := args ++ Array.replicate (fn.ntmps - args.size) undef, defers := [] } w) : Calls P f args w R := by
  intro cs
  let b : Frame := { (default : Frame) with fn := f, kind := .normal }
  have henter : Frame.enter P f args .normal =
      b.at { tmps := args ++ Array.replicate (fn.ntmps - args.size) undef, defers := [] } [.code c] := by
    simp [Frame.enter, Frame.at, hf, hb, b]
  obtain ⟨e, a', w', hq, harr⟩ := h b [] cs
  rw [← henter] at harr
  cases e with
  | normal =>
    obtain ⟨e', w'', fr', hR, hs, hfn, hl⟩ := leavesB_steps a'.defers w' { b.at a' [] with mode := .returning } cs rfl rfl rfl hf rfl hq
    exact ⟨e', w'', fr', hR, Comes.of_steps (Steps.trans harr (.one step_end)) hs, hfn, hl⟩
  | ret =>
    obtain ⟨todo, hs₀⟩ := harr
    obtain ⟨e', w'', fr', hR, hs, hfn, hl⟩ := leavesB_steps a'.defers w' { b.at a' todo with mode := .returning } cs rfl rfl rfl hf rfl hq
    exact ⟨e', w'', fr', hR, Comes.of_steps hs₀ hs, hfn, hl⟩
  | panic chain => exact hq.elim
  | exit id => exact hq.elim
  | goto l => exact hq.elim
  | outgrown => exact ⟨.outgrown, w', b, hq, harr.resolve_left (by simp [b]), rfl, trivial⟩
end

/-- delete(m, k) as a deferred call. -/
theorem invoke_del {w : World} {b : Nat} {l : Lk.KV} {k : Int} (h : MapIs w b l) (hk : (Lit.int .i64 k).wf = true) (ty : TypeId) (ks : Array Bool) :
    ∃ w', (invoke (.builtin .delete #[66, 3] ty ks) #[.map (some b), .int .i64 k]).run Try.prog w = .ok (.value (.tuple #[])) w' ∧ MapIs w' b (Lk.kdel k l) ∧ w.mapTurned w' b := by
  obtain ⟨w', hrun, h1, h2⟩ := World.ownsMap.drop h K3 Try.underlying66 (key_int hk) ty
  exact ⟨w', by simp [invoke, builtin, hrun, Result.andThen], MapIs.of (by rw [← mapD_del]; exact h1), h2⟩

end Go.Proofs.Ytpkldcnkadfhgaa
