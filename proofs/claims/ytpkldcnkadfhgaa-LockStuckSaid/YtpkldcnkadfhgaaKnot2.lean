/- Those that are stuck are a knot. -/
import Derived.Test.YtpkldcnkadfhgaaKnot
namespace Go.Proofs.Ytpkldcnkadfhgaa
namespace Lk

theorem kget_less (k : KV) (p x : Int) : kget (less k p) x = if x = p then kget k p - 1 else kget k x := by
  unfold less
  split
  · rw [kget_del]
    split
    · omega
    · rfl
  · rw [kget_put]
theorem step1_cases {n N : Nat} {s : T × List Int} (h : SOk n N s) (i : Nat) (p : Int) :
    (step1 i p s = s ∧ ∀ l, s.1.ls[i]? = some l → kget l.held p = 0) ∨
    ∃ l, s.1.ls[i]? = some l ∧ kget l.held p ≠ 0 ∧
      ((l.wait = [] ∧ step1 i p s = ({ ls := s.1.ls.set i { l with free := l.free + 1, held := less l.held p }, waits := s.1.waits }, s.2)) ∨
       ∃ q r, l.wait = q :: r ∧ step1 i p s = ({ ls := s.1.ls.set i { l with held := kput q (kget (less l.held p) q + 1) (less l.held p), wait := r }, waits := kdel q s.1.waits }, s.2 ++ [q])) := by
  unfold Lk.step1
  cases hl : s.1.ls[i]? with
  | none => exact .inl ⟨rfl, fun l e => by cases e⟩
  | some l =>
    simp only
    by_cases h0 : kget l.held p = 0
    · rw [if_pos h0]; exact .inl ⟨rfl, fun l' e => by cases e; exact h0⟩
    · rw [if_neg h0]
      refine .inr ⟨l, rfl, h0, ?_⟩
      have hlo := h.ok.ok l (List.mem_of_getElem? hl)
      cases hw : l.wait with
      | nil =>
        have ef : freed l p = ({ l with free := l.free + 1, held := less l.held p }, 0) := by unfold freed; rw [hw]
        refine .inl ⟨rfl, ?_⟩
        unfold free
        rw [ef, h.ok.noZero]
        simp [hw]
      | cons q r =>
        have ef : freed l p = ({ l with held := kput q (kget (less l.held p) q + 1) (less l.held p), wait := r }, q) := by unfold freed; rw [hw]
        have hq : isP q := hlo.ps q (by rw [hw]; simp)
        have e0 : 0 < q := by unfold isP at hq; omega
        refine .inr ⟨q, r, rfl, ?_⟩
        unfold free
        rw [ef]
        simp [e0]

/-- While p frees. -/
structure Mv (p : Int) (R : Int → Prop) (s : T × List Int) : Prop where
  nw : khas s.1.waits p = false
  tw : ∀ x ∈ s.2, khas s.1.waits x = false
  en : ∀ (i : Nat) l q, s.1.ls[i]? = some l → kget l.held q ≠ 0 → khas s.1.waits q = true ∨ q ∈ s.2 ∨ q = p ∨ R q
structure To (p : Int) (s s' : T × List Int) : Prop where
  len : s'.1.ls.length = s.1.ls.length
  sub : ∀ k, khas s'.1.waits k = true → khas s.1.waits k = true
  back : ∀ S : Int → Prop, ¬ S p → Knot s'.1 S → Knot s.1 S
  zero : ∀ (j : Nat) l l', s.1.ls[j]? = some l → kget l.held p = 0 → s'.1.ls[j]? = some l' → kget l'.held p = 0
theorem To.refl (p : Int) (s : T × List Int) : To p s s := ⟨rfl, fun _ h => h, fun _ _ h => h, fun j l l' e h e' => by rw [e] at e'; cases e'; exact h⟩
theorem To.trans {p : Int} {a b c : T × List Int} (h : To p a b) (k : To p b c) : To p a c :=
  ⟨k.len.trans h.len, fun x hx => h.sub x (k.sub x hx), fun S hS hk => h.back S hS (k.back S hS hk), fun j l l' e h0 e' => by
    have hj : j < b.1.ls.length := by rw [h.len]; exact (List.getElem?_eq_some_iff.1 e).1
    have e2 : b.1.ls[j]? = some b.1.ls[j] := List.getElem?_eq_getElem hj
    exact k.zero j _ l' e2 (h.zero j l _ e h0 e2) e'⟩

theorem Mv.step1 {n N : Nat} {p : Int} {R : Int → Prop} {s : T × List Int} (h : SOk n N s) (m : Mv p R s) (i : Nat) :
    Mv p R (step1 i p s) ∧ To p s (step1 i p s) ∧ ∀ l l', s.1.ls[i]? = some l → (step1 i p s).1.ls[i]? = some l' → kget l.held p ≠ 0 → kget l'.held p = kget l.held p - 1 := by
  have hok' := (h.step1 i p).ok
  rcases step1_cases h i p with ⟨e, h0⟩ | ⟨l, hl, h0, ⟨hw, e⟩ | ⟨q, r, hw, e⟩⟩
  · rw [e]
    exact ⟨m, To.refl _ _, fun l l' e1 _ h1 => absurd (h0 l e1) h1⟩
  · rw [e]
    refine ⟨⟨m.nw, m.tw, fun j x y hx hy => ?_⟩, ⟨by simp, fun _ h => h, fun S hS hk => ?_, fun j x x' e1 h1 e2 => ?_⟩, fun x x' e1 e2 h1 => ?_⟩
    · by_cases hj : j = i
      · subst hj
        rw [show ({ ls := s.1.ls.set j { l with free := l.free + 1, held := less l.held p }, waits := s.1.waits } : T).ls = s.1.ls.set j { l with free := l.free + 1, held := less l.held p } from rfl, set_eq hl] at hx
        cases hx
        simp only [kget_less] at hy
        by_cases hyp : y = p
        · exact .inr (.inr (.inl hyp))
        · rw [if_neg hyp] at hy; exact m.en j l y hl hy
      · simp only [set_ne hj] at hx
        exact m.en j x y hx hy
    · intro y hy
      obtain ⟨j, x, hx, hyw, hh⟩ := hk y hy
      by_cases hj : j = i
      · subst hj
        simp only [set_eq hl] at hx
        cases hx
        simp only [hw] at hyw
        cases hyw
      · simp only [set_ne hj] at hx
        exact ⟨j, x, hx, hyw, hh⟩
    · by_cases hj : j = i
      · subst hj
        rw [hl] at e1; cases e1
        exact absurd h1 h0
      · simp only [set_ne hj] at e2
        rw [e1] at e2; cases e2; exact h1
    · rw [hl] at e1; cases e1
      simp only [set_eq hl] at e2
      cases e2
      simp [kget_less]
  · have hqw : (q, (i : Int) + 1) ∈ s.1.waits := h.ok.w1 i l q hl (by rw [hw]; simp)
    have hqp : q ≠ p := fun e => by
      have := khas_of_mem hqw
      rw [e, m.nw] at this; cases this
    have hq0 : 0 ≤ kget (less l.held p) q := by
      rw [kget_less, if_neg hqp]
      exact (h.ok.ok l (List.mem_of_getElem? hl)).held_0 q
    rw [e] at hok' ⊢
    refine ⟨⟨?_, fun x hx => ?_, fun j x y hx hy => ?_⟩, ⟨by simp, fun k hk => ?_, fun S hS hk => ?_, fun j x x' e1 h1 e2 => ?_⟩, fun x x' e1 e2 h1 => ?_⟩
    · simp only [khas_del, m.nw, Bool.and_false]
    · simp only [khas_del]
      rcases List.mem_append.1 hx with hx | hx
      · rw [m.tw x hx, Bool.and_false]
      · simp at hx; subst hx; simp
    · by_cases hyq : y = q
      · exact .inr (.inl (by simp [hyq]))
      · have key : khas s.1.waits y = true ∨ y ∈ s.2 ∨ y = p ∨ R y := by
          by_cases hj : j = i
          · subst hj
            simp only [set_eq hl] at hx
            cases hx
            simp only [kget_put, if_neg hyq, kget_less] at hy
            by_cases hyp : y = p
            · exact .inr (.inr (.inl hyp))
            · rw [if_neg hyp] at hy; exact m.en j l y hl hy
          · simp only [set_ne hj] at hx
            exact m.en j x y hx hy
        rcases key with k | k | k
        · left; simp only [khas_del, k, hyq, decide_false, Bool.not_false, Bool.and_true]
        · exact .inr (.inl (by simp [k]))
        · exact .inr (.inr k)
    · simp only [khas_del, Bool.and_eq_true] at hk
      exact hk.2
    · intro y hy
      obtain ⟨j, x, hx, hyw, hh⟩ := hk y hy
      by_cases hj : j = i
      · subst hj
        simp only [set_eq hl] at hx
        cases hx
        have hSq : S q := hh q (by simp only [kget_put, if_true]; omega)
        have := hk.waits hok' hSq
        simp only [khas_del, decide_true, Bool.not_true, Bool.false_and] at this
        cases this
      · simp only [set_ne hj] at hx
        exact ⟨j, x, hx, hyw, hh⟩
    · by_cases hj : j = i
      · subst hj
        rw [hl] at e1; cases e1
        exact absurd h1 h0
      · simp only [set_ne hj] at e2
        rw [e1] at e2; cases e2; exact h1
    · rw [hl] at e1; cases e1
      simp only [set_eq hl] at e2
      cases e2
      simp only [kget_put, if_neg (Ne.symm hqp), kget_less, if_true]
end Lk
end Go.Proofs.Ytpkldcnkadfhgaa
