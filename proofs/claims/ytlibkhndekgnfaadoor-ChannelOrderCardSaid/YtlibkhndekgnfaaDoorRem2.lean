/- Taking a waiter out of the list: if there is one, and if there is none. -/
import Derived.Test.YtlibkhndekgnfaaDoorRemove
namespace Go.Proofs.YtlibkhndekgnfaaDoor
open Go.RowKit

theorem removeR_some {b : Nat} {ns : List Nat} {c : Cn.St} {pr : Cn.Wt → Bool} {w : World}  (h : Rep w b ns c)
    (hcall : ∀ (x : Cn.Wt) (W : World), Below w.heap.size w W → Calls Tryd.prog 40 #[wtV x.t x.send x.v.k x.v.n x.v.s] W fun e W' => e = .returned (.bool (pr x)) ∧ Below W.heap.size W W')
    {x : Cn.Wt} {r : List Cn.Wt} (hp : Cn.pick pr c.wait = some (x, r)) :
    Calls Tryd.prog 39 #[.pointer (some ⟨b, 53, none⟩), .func (.func 40) #[] #[]] w fun e w' => e = .returned (.tuple #[wtV x.t x.send x.v.k x.v.n x.v.s, .bool true]) ∧ ∃ ns', (∀ x ∈ ns', x ∈ ns) ∧ Rep w' b ns' { c with wait := r } ∧ Fr (b :: ns) w w' := by
  refine (removeR_any b ns c pr w  h hcall).mono ?_
  rintro e w' ⟨ns', hs, hR, hF, he⟩
  rw [hp] at he
  have e1 : Cn.rest pr c.wait = r := by simp [Cn.rest, hp]
  rw [e1] at hR
  exact ⟨he, ns', hs, hR, hF⟩
theorem removeR_none {b : Nat} {ns : List Nat} {c : Cn.St} {pr : Cn.Wt → Bool} {w : World}  (h : Rep w b ns c)
    (hcall : ∀ (x : Cn.Wt) (W : World), Below w.heap.size w W → Calls Tryd.prog 40 #[wtV x.t x.send x.v.k x.v.n x.v.s] W fun e W' => e = .returned (.bool (pr x)) ∧ Below W.heap.size W W')
    (hp : Cn.pick pr c.wait = none) :
    Calls Tryd.prog 39 #[.pointer (some ⟨b, 53, none⟩), .func (.func 40) #[] #[]] w fun e w' => e = .returned (.tuple #[wtV 0 false 0 0 noS, .bool false]) ∧ ∃ ns', (∀ x ∈ ns', x ∈ ns) ∧ Rep w' b ns' c ∧ Fr (b :: ns) w w' := by
  refine (removeR_any b ns c pr w  h hcall).mono ?_
  rintro e w' ⟨ns', hs, hR, hF, he⟩
  rw [hp] at he
  have e1 : Cn.rest pr c.wait = c.wait := by simp [Cn.rest, hp]
  rw [e1] at hR
  exact ⟨he, ns', hs, hR, hF⟩

theorem removeS_some {b : Nat} {ns : List Nat} {c : Cn.St} {pr : Cn.Wt → Bool} {w : World}  (h : Rep w b ns c)
    (hcall : ∀ (x : Cn.Wt) (W : World), Below w.heap.size w W → Calls Tryd.prog 42 #[wtV x.t x.send x.v.k x.v.n x.v.s] W fun e W' => e = .returned (.bool (pr x)) ∧ Below W.heap.size W W')
    {x : Cn.Wt} {r : List Cn.Wt} (hp : Cn.pick pr c.wait = some (x, r)) :
    Calls Tryd.prog 39 #[.pointer (some ⟨b, 53, none⟩), .func (.func 42) #[] #[]] w fun e w' => e = .returned (.tuple #[wtV x.t x.send x.v.k x.v.n x.v.s, .bool true]) ∧ ∃ ns', (∀ x ∈ ns', x ∈ ns) ∧ Rep w' b ns' { c with wait := r } ∧ Fr (b :: ns) w w' := by
  refine (removeS_any b ns c pr w  h hcall).mono ?_
  rintro e w' ⟨ns', hs, hR, hF, he⟩
  rw [hp] at he
  have e1 : Cn.rest pr c.wait = r := by simp [Cn.rest, hp]
  rw [e1] at hR
  exact ⟨he, ns', hs, hR, hF⟩
theorem removeS_none {b : Nat} {ns : List Nat} {c : Cn.St} {pr : Cn.Wt → Bool} {w : World}  (h : Rep w b ns c)
    (hcall : ∀ (x : Cn.Wt) (W : World), Below w.heap.size w W → Calls Tryd.prog 42 #[wtV x.t x.send x.v.k x.v.n x.v.s] W fun e W' => e = .returned (.bool (pr x)) ∧ Below W.heap.size W W')
    (hp : Cn.pick pr c.wait = none) :
    Calls Tryd.prog 39 #[.pointer (some ⟨b, 53, none⟩), .func (.func 42) #[] #[]] w fun e w' => e = .returned (.tuple #[wtV 0 false 0 0 noS, .bool false]) ∧ ∃ ns', (∀ x ∈ ns', x ∈ ns) ∧ Rep w' b ns' c ∧ Fr (b :: ns) w w' := by
  refine (removeS_any b ns c pr w  h hcall).mono ?_
  rintro e w' ⟨ns', hs, hR, hF, he⟩
  rw [hp] at he
  have e1 : Cn.rest pr c.wait = c.wait := by simp [Cn.rest, hp]
  rw [e1] at hR
  exact ⟨he, ns', hs, hR, hF⟩

theorem removeT_some {b : Nat} {ns : List Nat} {c : Cn.St} {pr : Cn.Wt → Bool} {w : World} (B : Nat) (h : Rep w b ns c)
    (hcall : ∀ (x : Cn.Wt) (W : World), Below w.heap.size w W → Calls Tryd.prog 46 #[wtV x.t x.send x.v.k x.v.n x.v.s, .pointer (some ⟨B, 0, none⟩)] W fun e W' => e = .returned (.bool (pr x)) ∧ Below W.heap.size W W')
    {x : Cn.Wt} {r : List Cn.Wt} (hp : Cn.pick pr c.wait = some (x, r)) :
    Calls Tryd.prog 39 #[.pointer (some ⟨b, 53, none⟩), .func (.func 46) #[] #[.pointer (some ⟨B, 0, none⟩)]] w fun e w' => e = .returned (.tuple #[wtV x.t x.send x.v.k x.v.n x.v.s, .bool true]) ∧ ∃ ns', (∀ x ∈ ns', x ∈ ns) ∧ Rep w' b ns' { c with wait := r } ∧ Fr (b :: ns) w w' := by
  refine (removeT_any b ns c pr w B h hcall).mono ?_
  rintro e w' ⟨ns', hs, hR, hF, he⟩
  rw [hp] at he
  have e1 : Cn.rest pr c.wait = r := by simp [Cn.rest, hp]
  rw [e1] at hR
  exact ⟨he, ns', hs, hR, hF⟩
theorem removeT_none {b : Nat} {ns : List Nat} {c : Cn.St} {pr : Cn.Wt → Bool} {w : World} (B : Nat) (h : Rep w b ns c)
    (hcall : ∀ (x : Cn.Wt) (W : World), Below w.heap.size w W → Calls Tryd.prog 46 #[wtV x.t x.send x.v.k x.v.n x.v.s, .pointer (some ⟨B, 0, none⟩)] W fun e W' => e = .returned (.bool (pr x)) ∧ Below W.heap.size W W')
    (hp : Cn.pick pr c.wait = none) :
    Calls Tryd.prog 39 #[.pointer (some ⟨b, 53, none⟩), .func (.func 46) #[] #[.pointer (some ⟨B, 0, none⟩)]] w fun e w' => e = .returned (.tuple #[wtV 0 false 0 0 noS, .bool false]) ∧ ∃ ns', (∀ x ∈ ns', x ∈ ns) ∧ Rep w' b ns' c ∧ Fr (b :: ns) w w' := by
  refine (removeT_any b ns c pr w B h hcall).mono ?_
  rintro e w' ⟨ns', hs, hR, hF, he⟩
  rw [hp] at he
  have e1 : Cn.rest pr c.wait = c.wait := by simp [Cn.rest, hp]
  rw [e1] at hR
  exact ⟨he, ns', hs, hR, hF⟩

end Go.Proofs.YtlibkhndekgnfaaDoor
