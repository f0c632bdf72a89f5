/- Each actor ends: after all its steps the race is over. -/
import Derived.Test.YtajccigefoddiaaPlayed
namespace Go.Proofs.Ytajccigefoddiaa
set_option linter.unusedVariables false
set_option linter.unusedSimpArgs false
open Go.RowKit
open St
def Ph.cost : St.Ph → Nat
  | .look _ => 3
  | .write _ => 2
  | .raise _ => 1
  | .lower => 4
  | .compare => 3
  | .readLast => 2
  | .last _ _ => 1
  | .aim => 4
  | .bound _ => 3
  | .reach _ => 2
  | .claim _ _ => 1
def phCost (o : Option St.Ph) : Nat := match o with | none => 0 | some p => Ph.cost p
def muA (a : Ac) : Nat := 4 * a.todo.length + phCost a.next
theorem cost_run (d : Dq) (p : St.Ph) : phCost (p.run d).2.1 + 1 ≤ Ph.cost p := by
  cases p <;> simp only [Ph.run] <;> (try split) <;> (try split) <;> simp [phCost, Ph.cost]
theorem mu_at {a : Ac} {p : St.Ph} {l : List St.Op} (h : a.at = some (p, l)) (d : Dq) : muA (a.after l (p.run d)) + 1 ≤ muA a := by
  have hc := cost_run d p
  have e0 : muA (a.after l (p.run d)) = 4 * l.length + phCost (p.run d).2.1 := rfl
  rw [e0]
  clear e0
  unfold muA
  rcases at_mem h with ⟨e, rfl⟩ | ⟨e, op, e2, rfl⟩
  · rw [e]; show _ ≤ _ + Ph.cost p; omega
  · rw [e, e2]
    have : Ph.cost op.first ≤ 4 := by cases op <;> simp [Op.first, Ph.cost]
    simp only [List.length_cons]
    show _ ≤ 4 * (l.length + 1) + 0
    omega
theorem mu_none {a : Ac} (h : a.at = none) : muA a = 0 := by
  obtain ⟨td, nx, gt⟩ := a
  cases nx with
  | some q => cases td <;> simp [Ac.at] at h
  | none =>
    cases td with
    | nil => rfl
    | cons op td => simp [Ac.at] at h
theorem over_mu {a : Ac} (h : muA a = 0) : a.isOver = true := by
  obtain ⟨td, nx, gt⟩ := a
  unfold muA at h
  cases td with
  | cons op td => simp at h
  | nil =>
    cases nx with
    | none => rfl
    | some p => cases p <;> simp [phCost, Ph.cost] at h
/-- Of an actor's steps there are so many left. -/
def MuLe (t : T) (i n : Nat) : Prop := ∀ a, t.acts[i]? = some a → muA a ≤ n
theorem mu_step {t : T} {i n : Nat} (h : MuLe t i n) (x : Int) : MuLe (t.step x).1 i n ∧ (x = (i : Int) → MuLe (t.step x).1 i (n - 1)) := by
  rcases step_cases t x with ⟨e, hn⟩ | ⟨j, a, p, l, rfl, ha, hat, e⟩
  · rw [e]
    refine ⟨h, fun hx b hb => ?_⟩
    rw [mu_none (hn i hx b hb)]; omega
  · rw [e]
    have hm := mu_at hat t.d
    have hil : j < t.acts.length := (List.getElem?_eq_some_iff.1 ha).1
    by_cases hj : j = i
    · subst hj
      have h1 := h a ha
      refine ⟨fun b hb => ?_, fun _ b hb => ?_⟩
      · rw [List.getElem?_set_self hil] at hb; cases hb; omega
      · rw [List.getElem?_set_self hil] at hb; cases hb; omega
    · refine ⟨fun b hb => ?_, fun e => absurd (by omega) hj⟩
      rw [List.getElem?_set_ne hj] at hb; exact h b hb
theorem lgStep_fst (s : T × List (Nat × Int)) (x : Int) : (lgStep s x).1 = (s.1.step x).1 := by unfold lgStep; split <;> rfl
theorem mu_plays {s : T × List (Nat × Int)} {i n : Nat} (h : MuLe s.1 i n) (l : List Int) : MuLe (lgPlays s l).1 i n := by
  induction l generalizing s with
  | nil => exact h
  | cons x l ih => exact ih (s := lgStep s x) (by rw [lgStep_fst]; exact (mu_step h x).1)
theorem mu_rep {s : T × List (Nat × Int)} {i n : Nat} (h : MuLe s.1 i n) (k : Nat) : MuLe (lgPlays s (List.replicate k (i : Int))).1 i (n - k) := by
  induction k generalizing s n with
  | zero => exact h
  | succ k ih =>
    have := ih (s := lgStep s (i : Int)) (n := n - 1) (by rw [lgStep_fst]; exact (mu_step h _).2 rfl)
    rw [show n - (k + 1) = n - 1 - k by omega]
    exact this
theorem lgPlays_app (s : T × List (Nat × Int)) (l m : List Int) : lgPlays s (l ++ m) = lgPlays (lgPlays s l) m := by unfold lgPlays; rw [List.foldl_append]
theorem acts_len (s : T × List (Nat × Int)) (l : List Int) : (lgPlays s l).1.acts.length = s.1.acts.length := by
  induction l generalizing s with
  | nil => rfl
  | cons x l ih =>
    refine (ih (lgStep s x)).trans ?_
    rw [lgStep_fst]
    rcases step_cases s.1 x with ⟨e, _⟩ | ⟨j, a, p, l, rfl, ha, hat, e⟩
    · rw [e]
    · rw [e]; simp
theorem mu_tail {s : T × List (Nat × Int)} (h : ∀ i : Nat, MuLe s.1 i 240) (k : Nat) : ∀ i : Nat, i < k → MuLe (lgPlays s (tailL k)).1 i 0 := by
  induction k with
  | zero => intro i hi; omega
  | succ k ih =>
    intro i hi
    rw [tailL_succ, lgPlays_app]
    by_cases hk : i = k
    · subst hk
      have := mu_rep (mu_plays (h i) (tailL i)) 240
      simpa using this
    · exact mu_plays (ih i (by omega)) _
theorem over_all {room : Int} {lo lt : List Int} (h : St.okPlan room lo lt = true) (l : List Int) : (lgPlays (St.mkT room lo lt, []) (l ++ tailL 9)).1.over = true := by
  obtain ⟨h1, h2, h3, h4, h5, h6⟩ := okPlan_parts h
  have hm : ∀ i : Nat, MuLe (St.mkT room lo lt) i 240 := fun i a e => by
    cases i with
    | zero =>
      have e0 : a = ⟨lo.map opOf, none, []⟩ := by simpa [St.mkT] using e.symm
      subst e0
      simp [muA, phCost]; omega
    | succ j =>
      have e' : (lt.map thiefAc)[j]? = some a := by simpa [St.mkT] using e
      rw [List.getElem?_map] at e'
      cases hj : lt[j]? with
      | none => rw [hj] at e'; cases e'
      | some n =>
        rw [hj] at e'
        obtain rfl : thiefAc n = a := by simpa using e'
        have := h6 n (List.mem_of_getElem? hj)
        simp [muA, phCost, thiefAc]; omega
  have hl := acts_len (St.mkT room lo lt, []) (l ++ tailL 9)
  have hlen : (St.mkT room lo lt).acts.length ≤ 9 := by simp [St.mkT]; omega
  unfold St.T.over
  rw [List.all_eq_true]
  intro a ha
  obtain ⟨i, hi, e⟩ := List.getElem_of_mem ha
  have hz : MuLe (lgPlays (St.mkT room lo lt, []) (l ++ tailL 9)).1 i 0 := by
    rw [lgPlays_app]
    exact mu_tail (fun j => mu_plays (hm j) l) 9 i (by simp only at hl; omega)
  have h0 := hz a (by rw [List.getElem?_eq_getElem hi, e])
  exact over_mu (Nat.le_zero.1 h0)
end Go.Proofs.Ytajccigefoddiaa
