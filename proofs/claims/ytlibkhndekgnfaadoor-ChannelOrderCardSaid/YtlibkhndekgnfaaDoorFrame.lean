/- The frame of the statements: a function that returns true for every input, and leaves what was there as it was, has its row. -/
import Derived.Test.YtlibkhndekgnfaaDoorRows
import Derived.Test.YtlibkhndekgnfaaDoorAwake
import Derived.ProofKit
import Derived.LaidMore
import Derived.LaidHandle
import Derived.LaidLaws
import Derived.HandedShaped
import Derived.Stop.Joined
import Derived.Below
import Derived.ChangeSame
import Derived.OpenShut
import Derived.Lib.LaidTab
import Derived.Lay
import Derived.Carry
import Derived.Deep.Slices
import Derived.SizedLaws
namespace Go.Proofs.YtlibkhndekgnfaaDoor
open Go.ChangeShapes Go.WideShapes Go.ChangeAt Go.RowKit Go.Deep
open Go.ChangeMaps (open_string shut_string)

section
variable {H : Type} {enc : TypeId × Value → H} {P : Program}
theorem post_of_below {f : Func} {s : ChangeSpec} {apart fresh handsOn again : Bool} {W W' : World} {args : Array Value} {v : Value} {ds gs : List (DataW H)} {before pa pv : List MemPlace}
    (hW : DataW.Whole enc P f.params.toList s.vars apart W args.toList ds gs before)
    (hres : ∀ (b : Nat) (sp : Nat → Bool) (hd : Bool), DataW.TrodAll enc P W' b sp hd f.resultTypes.toList (v.resultList f.resultTypes.size) (s.fn H (ds ++ gs)).results [])
    (hargs : ∀ sp : Nat → Bool, (∀ p ∈ before, sp p.block = true) → DataW.TrodAll enc P W' 0 sp true f.params.toList args.toList (s.fn H (ds ++ gs)).args pa)
    (hvars : ∀ sp : Nat → Bool, (∀ p ∈ before, sp p.block = true) → DataW.TrodVars enc P W' sp s.vars (s.fn H (ds ++ gs)).vars pv)
    (hps : before = pa ++ pv) (hb : Below W.heap.size W W')
    (hok : ∀ (j : Nat) (t : TypeId) (r : Value), f.resultTypes[j]? = some t → (v.resultList f.resultTypes.size)[j]? = some r → Value.okWide P W' .any 0 t r) :
    s.post enc P f apart fresh handsOn again W args v W' := by
  have hlt : ∀ p ∈ before, p.block < W.heap.size := fun p hp => hW.lt p hp
  have hold : ∀ p ∈ before, (fun b => decide (b < W.heap.size)) p.block = true := fun p hp => by simpa using hlt p hp
  refine ⟨ds, gs, before, [], pa, pv, hW, hres _ _ _, hargs _ hold, hvars _ hold, World.keptBut_mono (fun p hp => ⟨hp, ?_⟩) (hb.frame (· ∈ before)), fun _ => ?_⟩
  · rw [hps, List.mem_append] at hp
    exact Or.inr hp
  · obtain ⟨_, _, _, _, _, hz, hn⟩ := hW
    refine ⟨hok, _, _, ([] ++ pa) ++ pv, ⟨[] ++ pa, pv, trodAll_append (hargs _ (fun _ _ => rfl)) (hres _ _ _), hvars _ (fun _ _ => rfl), rfl, ?_, ?_⟩, ?_⟩
    · intro b off hp
      have hin : MemPlace.cell b off ∈ before := by rw [hps]; simpa using hp
      rw [hb.frozen (hlt _ hin)]
      exact hz b off hin
    · intro ha
      have := hn ha
      rw [hps] at this
      simpa using this
    · intro p hp _
      rw [hps]
      simpa using hp
end

theorem own : ownKnob Tryd.prog.godebug = none := by kernel_rfl

/-- The wrap with a condition on the memory and the shape of the world. -/
theorem handed_law {H : Type} {enc : TypeId × Value → H} {a : Assume} {C : Checked} {os : Os} {f : FuncId} {fn : Func} {s : ChangeSpec} {conds : List PathCond} {apart fresh handsOn again : Bool} {X : World → Array Value → Prop}
    (hX : ∀ (w w' : World) (args : Array Value), w.heap = w'.heap → X w args → X w' args)
    (own : ownKnob C.prog.godebug = none) (started : os.Started) (noInit : C.prog.inits.idxOf? f = none) (hfn : C.prog.funcs[f]? = some fn)
    (witness : ∃ (w : World) (tape : Tape) (i : Input), w.os = os ∧ (w.forCall tape i).Shaped C.prog ∧ i.vars = [] ∧ Input.okWide C.prog (w.forCall tape i) .any w.heap.size f i ∧
      ((s.pre enc C.prog fn conds apart (w.forCall tape i).memory i.args ∧ X (w.forCall tape i).memory i.args) ∧ sizedMet enc C.prog fn (OpenSpec.ofChange s) apart (w.forCall tape i).memory i.args) ∧ a.holds C.prog (lone (Frame.enter C.prog f i.args .normal) [] (w.forCall tape i)))
    (contract : ∀ (W : World) (base : Nat) (args : Array Value) (ds gs : List (DataW H)) (before : List MemPlace),
      (∀ (j : Nat) t v, fn.params[j]? = some t → args[j]? = some v → Value.okWide C.prog W .any base t v) →
      DataW.Whole enc C.prog fn.params.toList s.vars apart W args.toList ds gs before →
      W.ShapedOpen C.prog → X W args →
      Calls C.prog f args W fun e W' => ∃ v, e = .returned v ∧ s.post enc C.prog fn apart fresh handsOn again W args v W') :
    ReturnsInHanded a C os f .any (fun w args => (s.pre enc C.prog fn conds apart w args ∧ X w args) ∧ sizedMet enc C.prog fn (OpenSpec.ofChange s) apart w args) (s.post enc C.prog fn apart fresh handsOn again) := by
  refine returnsInHanded_of_calls own started noInit witness ?_
  intro w tape i _ hsh _ hok hpre _
  obtain ⟨_, _, _, fn', hfn', _, _, _, _, hval⟩ := hok
  have e : fn' = fn := Option.some.inj (hfn'.symm.trans hfn)
  subst e
  obtain ⟨⟨⟨ds, gs, before, hw, _⟩, hx⟩, _⟩ := hpre
  have hw' := DataW.Whole.of_heap (w' := w.forCall tape i) (by rfl) hw
  refine (contract (w.forCall tape i) w.heap.size i.args ds gs before hval hw' hsh (hX _ _ _ (by rfl) hx)).mono fun e W' ⟨v, he, hp⟩ => ?_
  subst he
  exact ChangeSpec.post_blind hp


/-- The listed variable. -/
def laid1 : List (String × DataW Unit) := [("seedbed/channel.closedFault", Rows.laid_seedbed_channel_closedFault)]

/-- A heap that holds what is listed meets the condition. -/
theorem laid_met1 (os : Os) (args : Array Value) : laidMetH Tryd.prog laid1 ((World.laidAll Tryd.prog os laid1).forCall (fun _ _ => 0) ⟨#[], args, []⟩).memory := by
  rw [MakeChecks.laidMetH_plain _ _ _ (by kernel_rfl)]
  exact laidMet_laidAll _ (by kernel_rfl) (by kernel_rfl)

/-- One variable of a list, wherever it stands there. -/
def Stands (W : World) (x : String) (d : DataW Unit) : Prop :=
  ∃ g t cs fuel p, Tryd.prog.globalNamed x = some g ∧ (Tryd.prog.globals[g]?).map (·.type) = some t ∧ W.var? Tryd.prog x = some cs ∧ DataW.trod (fun _ => ()) Tryd.prog W 0 (fun _ => true) false fuel t cs.toList = some (d, p)
theorem stands_of : ∀ {l : List (String × DataW Unit)} {ps : List MemPlace} {W : World}, DataW.LaidVars Tryd.prog W l ps → ∀ {x : String} {d : DataW Unit}, (x, d) ∈ l → Stands W x d
  | [], _, _, _, _, _, hm => nomatch hm
  | (y, c) :: r, _, W, ⟨g, t, cs, fuel, p, q, h1, h2, h3, h4, h5, _⟩, x, d, hm => by
    cases hm with
    | head => exact ⟨g, t, cs, fuel, p, h1, h2, h3, h4⟩
    | tail _ hm => exact stands_of h5 hm


theorem gFault : Tryd.prog.globalNamed "seedbed/channel.closedFault" = some 0 := by kernel_rfl
theorem tFault : (Tryd.prog.globals[0]?).map (·.type) = some 45 := by kernel_rfl
theorem cells3 : Tryd.prog.cellsOf 3 = 1 := by kernel_rfl
theorem cells4 : Tryd.prog.cellsOf 4 = 1 := by kernel_rfl
theorem cells9 : Tryd.prog.cellsOf 9 = 1 := by kernel_rfl
theorem cells37 : Tryd.prog.cellsOf 37 = 3 := by kernel_rfl
theorem cells39 : Tryd.prog.cellsOf 39 = 6 := by kernel_rfl
theorem laidOut : laidOutB Tryd.prog = true := by kernel_rfl

/-- What the condition gives the walks. -/
theorem env_of_laid {W : World} (h : laidMetH Tryd.prog laid1 W) : Env W := by
  rw [MakeChecks.laidMetH_plain _ _ _ (by kernel_rfl)] at h
  obtain ⟨ps, hv, _⟩ := h
  obtain ⟨g, t, cs, fuel, p, hg, ht, hvar, hd⟩ := stands_of hv (x := "seedbed/channel.closedFault") (d := Rows.laid_seedbed_channel_closedFault) (by simp [laid1])
  obtain rfl := Option.some.inj (gFault.symm.trans hg)
  obtain rfl := Option.some.inj (tFault.symm.trans ht)
  unfold Rows.laid_seedbed_channel_closedFault at hd
  obtain ⟨xs, m, hcs, hx, _, hl, hel⟩ := DataW.trod_struct Tryd.underlying45 hd
  obtain ⟨x0, x1, rfl⟩ : ∃ x0 x1, xs = [x0, x1] := by
    have hl' : xs.length = 2 := hl
    match xs, hl' with
    | [x0, x1], _ => exact ⟨x0, x1, rfl⟩
  have hds : [x0, x1].map (·.1) = [.lit (.int .i64 1), .lit (.string [99, 108, 111, 115, 101, 100])] := by
    have := congrArg Prod.fst hx; simpa using this.symm
  have e0 : DataW.trod (fun _ => ()) Tryd.prog W 0 (fun _ => true) false m 3 ((cs.toList.drop 0).take (Tryd.prog.cellsOf 3)) = some x0 := hel 0 _ rfl
  have e1 : DataW.trod (fun _ => ()) Tryd.prog W 0 (fun _ => true) false m 9 ((cs.toList.drop 1).take (Tryd.prog.cellsOf 9)) = some x1 := hel 1 _ rfl
  rw [cells3] at e0
  rw [cells9] at e1
  obtain ⟨k, h0, hx0, _⟩ := DataW.trod_int Tryd.underlying3 e0
  obtain ⟨s, h1, hx1, _⟩ := DataW.trod_string Tryd.underlying9 e1
  have k0 := congrArg (·[0]?) h0
  have k1 := congrArg (·[0]?) h1
  have q0 : cs[0]? = some (.int .i64 k) := by simpa [List.getElem?_take, List.getElem?_drop] using k0
  have q1 : cs[1]? = some (.string s) := by simpa [List.getElem?_take, List.getElem?_drop] using k1
  subst hx0 hx1
  simp only [List.map_cons, List.map_nil, List.cons.injEq, DataW.lit.injEq, Lit.int.injEq, Lit.string.injEq, true_and, and_true] at hds
  have ek : k = 1 := hds.1
  have es : s = closedS := by
    have : s.data = #[99, 108, 111, 115, 101, 100] := by rw [← Array.toList_inj]; exact hds.2
    cases s; simp_all
  subst ek es
  have kk := fun i => World.var?_cell gFault hvar i
  exact ⟨(kk 0).trans q0, (kk 1).trans q1⟩

end Go.Proofs.YtlibkhndekgnfaaDoor
