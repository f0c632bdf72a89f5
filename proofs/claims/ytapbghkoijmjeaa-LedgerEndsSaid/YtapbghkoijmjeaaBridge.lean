/- A region that draws its order, in a round of a range over a function: what is shown of it elsewhere holds there too. -/
import Derived.OrdersIn
import Derived.ControlIn
import Derived.RangeFuncCalls
import Derived.Deep.RegionHeld
import Derived.Deep.RegionHeld3
import Derived.Test.YtapbghkoijmjeaaBack
namespace Go.Proofs.Ytapbghkoijmjeaa
set_option linter.unusedVariables false
set_option linter.unusedSimpArgs false
open Go.RowKit Go.Shelf

section
variable {P : Program} {md : Region.Mode} {ops : Array Oper} {QQ Q : Exit → Act → World → Prop} {n : Nat}
theorem wpIn_of_plain (l : Nat) {o : Oper} (hd : ∀ c, o.op ≠ .defer c) {K K' : Act → World → Prop} (hK : ∀ a w, K a w → K' a w) (hp : ∀ c a w, ¬ QQ (.panic c) a w) (hl : ¬ LetsOut QQ) {a : Act} {w : World} (h : o.wp P a w K QQ) : o.wpIn (Fence.wide.inRound l) n P a w K' Q := by
  refine ⟨fun _ _ => trivial, ?_⟩
  rw [Oper.semAt_eq _ _ _ hd]
  unfold Oper.wp at h
  generalize (execOp a.eval o).run P w = r at h ⊢
  match r, h with
  | .ok (.value v) w', h => exact hK _ _ h
  | .ok .skip w', h => exact hK _ _ h
  | .ok (.defer d) w', h => exact hK _ _ h
  | .ok (.enter f args) w', h =>
    refine ⟨fun hs => by simp [Fence.wide] at hs, CallsIn.inRound l ((callsIn_wide.2 h).mono ?_)⟩
    intro e w2 he
    cases e with
    | returned v => exact hK _ _ he
    | panicked c => exact (hp _ _ _ he).elim
    | outgrown => exact (hl he).elim
  | .ok (.row row args) w', h =>
    refine ⟨fun hs => by simp [Fence.wide] at hs, fun c cs _ => ?_⟩
    obtain ⟨v, w2, h1, h2⟩ := h c cs
    exact ⟨v, w2, hK _ _ h1, stepsIn_wide.2 h2⟩
  | .halt (.panic v) w', h => exact (hp _ _ _ h).elim
theorem wpAnyIn_of_plain (l : Nat) (hd : ∀ (i : Nat) o, ops[i]? = some o → ∀ c, o.op ≠ .defer c) (hp : ∀ c a w, ¬ QQ (.panic c) a w) (hl : ¬ LetsOut QQ) (hQ : ∀ a w, QQ .normal a w → Q .normal a w) :
    ∀ (fuel : Nat) (listed : Array Bool) (a : Act) (w : World), wpAny P md ops QQ fuel listed a w → wpAnyIn (Fence.wide.inRound l) n P md ops Q fuel listed a w
  | 0, _, _, _, h => ⟨h.1, hQ _ _ h.2⟩
  | fuel + 1, listed, a, w, h => ⟨fun hr => hQ _ _ (h.1 hr), fun i hi => by
    have h2 := h.2 i hi
    unfold wpOp at h2
    unfold wpOpIn
    cases ho : ops[i]? with
    | none => rw [ho] at h2; exact wpAnyIn_of_plain l hd hp hl hQ fuel _ a w h2
    | some o =>
      rw [ho] at h2
      simp only at h2 ⊢
      split
      · rename_i hw
        rw [if_pos hw] at h2
        rcases h2 with h2 | h2
        · exact wpIn_of_plain l (hd i o ho) (fun a w => wpAnyIn_of_plain l hd hp hl hQ fuel _ a w) hp hl h2
        · exact (hl h2.2).elim
      · rename_i hw
        rw [if_neg hw] at h2
        exact ⟨fun _ _ => trivial, wpAnyIn_of_plain l hd hp hl hQ fuel _ _ w h2⟩⟩
/-- What a region leaves behind: nothing but what is said. -/
def Only (R : Act → World → Prop) : Exit → Act → World → Prop
  | .normal, a, w => R a w
  | _, _, _ => False
theorem region_in_round (l : Nat) {R : Act → World → Prop} {id : Nat} {a : Act} {w : World} (hd : ∀ (i : Nat) o, ops[i]? = some o → ∀ c, o.op ≠ .defer c) (hm : P.follows .mixedOrders = true)
    (hQ : ∀ a w, R a w → Q .normal a w) (h : wpAny P .any ops (Only R) ops.size (Array.replicate ops.size false) a w.drew) : (Code.region id ops true).wpIn (Fence.wide.inRound l) n P Q a w :=
  wpIn_region_any hm (wpAnyIn_of_plain l hd (fun _ _ _ h => h) (fun ⟨_, _, h⟩ => h) hQ _ _ _ _ h)
def noDefer (ops : Array Oper) : Bool := ops.toList.all fun o => match o.op with | .defer _ => false | _ => true
theorem noDefer_spec (h : noDefer ops = true) : ∀ (i : Nat) o, ops[i]? = some o → ∀ c, o.op ≠ .defer c := fun i o ho c e => by
  have hm : o ∈ ops.toList := by rw [← Array.getElem?_toList] at ho; exact List.mem_of_getElem? ho
  have := List.all_eq_true.1 h o hm
  rw [e] at this
  simp at this
end
end Go.Proofs.Ytapbghkoijmjeaa
