/- Where a steal ends in vain, another has ended an operation with a number. -/
import Derived.Test.YtajccigefoddiaaMuOver
namespace Go.Proofs.Ytajccigefoddiaa
set_option linter.unusedVariables false
set_option linter.unusedSimpArgs false
open Go.RowKit
open St
/-- The place that a thief aims at. -/
def phT : Option St.Ph → Option Nat
  | some (.bound t) => some t
  | some (.reach t) => some t
  | some (.claim t _) => some t
  | _ => none
def Since (i : Nat) (log : List (Nat × Int)) : Prop := ∃ k e, log[k]? = some e ∧ 0 < e.2 ∧ ∀ (j : Nat) f, k ≤ j → log[j]? = some f → f.1 ≠ i
theorem Since.snoc {i : Nat} {log : List (Nat × Int)} (h : Since i log) {e : Nat × Int} (hn : e.1 ≠ i) : Since i (log ++ [e]) := by
  obtain ⟨k, f, h1, h2, h3⟩ := h
  have hk := (List.getElem?_eq_some_iff.1 h1).1
  refine ⟨k, f, by rw [List.getElem?_append_left hk]; exact h1, h2, fun j g hj hg => ?_⟩
  by_cases hl : j < log.length
  · rw [List.getElem?_append_left hl] at hg; exact h3 j g hj hg
  · have hj2 := (List.getElem?_eq_some_iff.1 hg).1
    simp at hj2
    obtain rfl : j = log.length := by omega
    simp at hg
    rw [← hg]; exact hn
theorem Since.last {i : Nat} {log : List (Nat × Int)} {e : Nat × Int} (hn : e.1 ≠ i) (h0 : 0 < e.2) : Since i (log ++ [e]) := by
  refine ⟨log.length, e, by simp, h0, fun j g hj hg => ?_⟩
  have hj2 := (List.getElem?_eq_some_iff.1 hg).1
  simp at hj2
  obtain rfl : j = log.length := by omega
  simp at hg
  rw [← hg]; exact hn
structure PInv (t : T) (log : List (Nat × Int)) : Prop where
  rinv : ∃ S, RInv t S
  aim : ∀ (i : Nat) a, 0 < i → t.acts[i]? = some a → ∀ u, phT a.next = some u → u < t.d.top → Since i log
  vain : ∀ (k : Nat) e, log[k]? = some e → e.1 ≠ 0 → e.2 = -1 → Since e.1 (log.take k)
theorem ph_next {d : Dq} {p q : St.Ph} (h : (p.run d).2.1 = some q) {u : Nat} (hu : phT (some q) = some u) : phT (some p) = some u ∨ u = d.top := by
  cases p <;> simp only [Ph.run] at h
  case compare => split at h; cases h; split at h; cases h; injection h with h; subst h; cases hu
  case aim => injection h with h; subst h; injection hu with hu; exact .inr hu.symm
  case bound v => split at h; cases h; injection h with h; subst h; exact .inl hu
  case reach v => injection h with h; subst h; exact .inl hu
  case look v => split at h; cases h; injection h with h; subst h; cases hu
  case last v y => split at h <;> cases h
  case claim v y => split at h <;> cases h
  all_goals (first | (cases h; done) | (injection h with h; subst h; cases hu))
theorem gotOf_set {t : T} {i : Nat} {a b : Ac} (ha : t.acts[i]? = some a) (d : Dq) : St.T.gotOf ⟨d, t.acts.set i b⟩ (i : Int) = b.got ∧ t.gotOf (i : Int) = a.got := by
  have hil : i < t.acts.length := (List.getElem?_eq_some_iff.1 ha).1
  unfold St.T.gotOf
  rw [if_neg (by omega), if_neg (by omega)]
  simp [ha, List.getElem?_set_self hil]
/-- What a step adds to the log. -/
theorem lgStep_cases (t : T) (log : List (Nat × Int)) (x : Int) (h9 : t.acts.length ≤ 9) : lgStep (t, log) x = (t, log) ∨ ∃ (i : Nat) (a : Ac) (p : St.Ph) (l : List St.Op), x = (i : Int) ∧ t.acts[i]? = some a ∧ a.at = some (p, l) ∧ lgStep (t, log) x = (⟨(p.run t.d).1, t.acts.set i (a.after l (p.run t.d))⟩, if (p.run t.d).2.1.isNone then log ++ [(i, (p.run t.d).2.2)] else log) := by
  rcases step_cases t x with ⟨e, hn⟩ | ⟨i, a, p, l, rfl, ha, hat, e⟩
  · left
    unfold lgStep
    simp [e]
  · right
    refine ⟨i, a, p, l, rfl, ha, hat, ?_⟩
    have hil : i < t.acts.length := (List.getElem?_eq_some_iff.1 ha).1
    obtain ⟨g1, g2⟩ := gotOf_set (b := a.after l (p.run t.d)) ha (p.run t.d).1
    unfold lgStep
    simp only [e, g1, g2]
    by_cases hq : (p.run t.d).2.1.isNone = true
    · have eg : (a.after l (p.run t.d)).got = a.got ++ [(p.run t.d).2.2] := by unfold Ac.after; simp only [hq, if_true]
      rw [if_pos ⟨by omega, by omega, by rw [eg]; simp⟩, if_pos hq, eg]
      simp [List.getD_eq_getElem?_getD]
    · have eg : (a.after l (p.run t.d)).got = a.got := by unfold Ac.after; simp only [hq]; rfl
      rw [if_neg (by rw [eg]; omega), if_neg hq]
theorem PInv.step {t : T} {log : List (Nat × Int)} (h : PInv t log) (h9 : t.acts.length ≤ 9) (x : Int) : PInv (lgStep (t, log) x).1 (lgStep (t, log) x).2 := by
  rcases lgStep_cases t log x h9 with e | ⟨i, a, p, l, rfl, ha, hat, e⟩
  · rw [e]; exact h
  · rw [e]
    obtain ⟨S, hS⟩ := h.rinv
    obtain ⟨S', ev, hS', hit, hev, _⟩ := hS.step ha hat
    have hil : i < t.acts.length := (List.getElem?_eq_some_iff.1 ha).1
    by_cases hq : (p.run t.d).2.1.isNone = true
    · rw [if_pos hq]
      refine ⟨⟨S', hS'⟩, fun j b hj hb u hu hlt => ?_, fun k f hk hf0 hf => ?_⟩
      · by_cases hji : i = j
        · subst hji
          simp only at hb
          rw [List.getElem?_set_self hil] at hb
          cases hb
          simp only [Ac.after] at hu
          rw [Option.isNone_iff_eq_none.1 hq] at hu
          cases hu
        · simp only at hb hlt
          rw [List.getElem?_set_ne hji] at hb
          by_cases htop : (p.run t.d).1.top = t.d.top
          · rw [htop] at hlt
            exact (h.aim j b hj hb u hu hlt).snoc hji
          · have hr := hev.res hq
            have hpos : 0 < (p.run t.d).2.2 := by
              by_cases hi : i = 0
              · rcases hev.own hq hi with ⟨y, _, _, h3, _⟩ | ⟨_, ⟨_, h3⟩ | ⟨y, rfl, h3, _⟩⟩
                · exact absurd h3 htop
                · exact absurd h3 htop
                · rw [hr]; exact h3
              · rcases hev.thief hq (by omega) with ⟨_, h3⟩ | ⟨_, h3, _⟩ | ⟨y, rfl, h3, _⟩
                · exact absurd h3 htop
                · exact absurd h3 htop
                · rw [hr]; exact h3
            exact Since.last (by exact hji) hpos
      · have hk2 := (List.getElem?_eq_some_iff.1 hk).1
        simp at hk2
        by_cases hl : k < log.length
        · rw [List.getElem?_append_left hl] at hk
          rw [List.take_append_of_le_length (by omega)]
          exact h.vain k f hk hf0 hf
        · obtain rfl : k = log.length := by omega
          simp at hk
          subst hk
          simp only at hf0 hf ⊢
          rw [List.take_left']
          · rcases hev.thief hq (by omega) with ⟨rfl, _⟩ | ⟨_, _, u, y, rfl, hlt⟩ | ⟨y, rfl, h3, _⟩
            · have := hev.res hq
              rw [hf] at this; cases this
            · rcases at_mem hat with ⟨e1, _⟩ | ⟨_, op, _, e2⟩
              · exact h.aim i a (by omega) ha u (by rw [e1]; rfl) hlt
              · cases op <;> cases e2
            · have := hev.res hq
              rw [hf] at this
              simp only [Ev.res] at this
              omega
          · rfl
    · rw [if_neg hq]
      have hq' : (p.run t.d).2.1.isNone = false := eq_false_of_ne_true hq
      obtain ⟨_, htop⟩ := hev.go hq'
      refine ⟨⟨S', hS'⟩, fun j b hj hb u hu hlt => ?_, h.vain⟩
      simp only at hb hlt
      rw [htop] at hlt
      by_cases hji : i = j
      · subst hji
        rw [List.getElem?_set_self hil] at hb
        cases hb
        simp only [Ac.after] at hu
        obtain ⟨q, hqq⟩ : ∃ q, (p.run t.d).2.1 = some q := by
          cases hz : (p.run t.d).2.1 with
          | none => rw [hz] at hq'; cases hq'
          | some q => exact ⟨q, rfl⟩
        rw [hqq] at hu
        rcases ph_next hqq hu with h1 | h1
        · rcases at_mem hat with ⟨e1, _⟩ | ⟨_, op, _, e2⟩
          · exact h.aim i a hj ha u (by rw [e1]; exact h1) hlt
          · subst e2; cases op <;> cases h1
        · omega
      · rw [List.getElem?_set_ne hji] at hb
        exact h.aim j b hj hb u hu hlt
theorem PInv.plays {s : T × List (Nat × Int)} (h : PInv s.1 s.2) (h9 : s.1.acts.length ≤ 9) (l : List Int) : PInv (lgPlays s l).1 (lgPlays s l).2 := by
  induction l generalizing s with
  | nil => exact h
  | cons x l ih =>
    have hl : (lgStep s x).1.acts.length = s.1.acts.length := acts_len s [x]
    exact ih (s := lgStep s x) (h.step h9 x) (by rw [hl]; exact h9)
theorem pinv_mk {room : Int} {lo lt : List Int} (h : St.okPlan room lo lt = true) (l : List Int) : PInv (lgPlays (St.mkT room lo lt, []) l).1 (lgPlays (St.mkT room lo lt, []) l).2 := by
  obtain ⟨h1, h2, h3, h4, h5, h6⟩ := okPlan_parts h
  refine PInv.plays ⟨⟨[], inv_mk h⟩, fun i a hi ha u hu => ?_, fun k e hk => by simp at hk⟩ (by simp [St.mkT]; omega) l
  cases i with
  | zero => omega
  | succ j =>
    have e' : (lt.map thiefAc)[j]? = some a := by simpa [St.mkT] using ha
    rw [List.getElem?_map] at e'
    cases hj : lt[j]? with
    | none => rw [hj] at e'; cases e'
    | some n =>
      rw [hj] at e'
      obtain rfl : thiefAc n = a := by simpa using e'
      cases hu
end Go.Proofs.Ytajccigefoddiaa
