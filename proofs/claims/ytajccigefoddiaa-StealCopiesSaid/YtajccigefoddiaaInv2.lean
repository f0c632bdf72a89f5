/- What a race keeps, whoever makes a step. -/
import Derived.Test.YtajccigefoddiaaInv
namespace Go.Proofs.Ytajccigefoddiaa
set_option linter.unusedVariables false
set_option linter.unusedSimpArgs false
open Go.RowKit
namespace St
def Ac.left (a : Ac) : Nat := a.todo.length + if a.next.isSome then 1 else 0
/-- What the owner has to do: pushes of positive numbers, and takes. -/
def OwnOp : Op → Prop
  | .push x => 0 < x
  | .take => True
  | .theft => False
structure RInv (t : T) (S : List Int) : Prop where
  dk : Dk t.d S
  own : ∀ a, t.acts[0]? = some a → OwnPh t.d S a.next
  ownT : ∀ a, t.acts[0]? = some a → ∀ op ∈ a.todo, OwnOp op
  th : ∀ (i : Nat) a, 0 < i → t.acts[i]? = some a → ThPh t.d S a.next
  thT : ∀ (i : Nat) a, 0 < i → t.acts[i]? = some a → ∀ op ∈ a.todo, op = .theft
  tot : ∀ a, t.acts[0]? = some a → t.d.top + S.length + a.left ≤ 100
  gl : ∀ (i : Nat) a, t.acts[i]? = some a → a.got.length + a.left ≤ 100
  n0 : 0 < t.acts.length
/-- The actor behind a step. -/
def Ac.after (a : Ac) (l : List Op) (r : Dq × Option Ph × Int) : Ac := ⟨l, r.2.1, if r.2.1.isNone then a.got ++ [r.2.2] else a.got⟩
/-- What has ended, if something has. -/
structure EvAt (i : Nat) (p : Ph) (d : Dq) (r : Dq × Option Ph × Int) (e : Ev) : Prop where
  go : r.2.1.isNone = false → e = .quiet ∧ r.1.top = d.top
  res : r.2.1.isNone = true → r.2.2 = e.res
  own : r.2.1.isNone = true → i = 0 → (∃ x, Ev.isPush p = some x ∧ 0 < x ∧ r.1.top = d.top ∧ (e = .full ∨ e = .pushed x)) ∨ (Ev.isPush p = none ∧ (e = .none_ ∧ r.1.top = d.top ∨ ∃ x, e = .took x ∧ 0 < x ∧ (r.1.top = d.top ∨ r.1.top = d.top + 1)))
  thief : r.2.1.isNone = true → 0 < i → e = .shut ∧ r.1.top = d.top ∨ (e = .vain ∧ r.1.top = d.top ∧ ∃ t x, p = .claim t x ∧ t < d.top) ∨ ∃ x, e = .stole x ∧ 0 < x ∧ r.1.top = d.top + 1
  push : i = 0 → ∀ q, r.2.1 = some q → Ev.isPush q = Ev.isPush p
theorem at_left {a : Ac} {p : Ph} {l : List Op} (h : a.at = some (p, l)) : a.left = l.length + 1 := by
  obtain ⟨td, nx, gt⟩ := a
  cases nx with
  | some q => cases td <;> (simp [Ac.at] at h; simp [Ac.left, h.2.symm])
  | none =>
    cases td with
    | nil => simp [Ac.at] at h
    | cons op td => simp [Ac.at] at h; simp [Ac.left, h.2]
theorem at_mem {a : Ac} {p : Ph} {l : List Op} (h : a.at = some (p, l)) : (a.next = some p ∧ l = a.todo) ∨ (a.next = none ∧ ∃ op, a.todo = op :: l ∧ p = op.first) := by
  obtain ⟨td, nx, gt⟩ := a
  cases nx with
  | some q => cases td <;> (simp [Ac.at] at h; left; simp [h.1, h.2])
  | none =>
    cases td with
    | nil => simp [Ac.at] at h
    | cons op td => simp [Ac.at] at h; right; exact ⟨rfl, op, by simp [h.2], h.1.symm⟩
theorem RInv.ownAt {t : T} {S : List Int} (h : RInv t S) {a : Ac} (ha : t.acts[0]? = some a) {p : Ph} {l : List Op} (hat : a.at = some (p, l)) : OwnPh t.d S (some p) := by
  have h0 := h.own a ha
  rcases at_mem hat with ⟨e, _⟩ | ⟨e, op, e2, rfl⟩
  · rwa [e] at h0
  · rw [e] at h0
    have ho := h.ownT a ha op (by rw [e2]; simp)
    cases op with
    | push x => exact ⟨h0, ho⟩
    | take => exact h0
    | theft => exact ho.elim
theorem RInv.thAt {t : T} {S : List Int} (h : RInv t S) {i : Nat} (hi : 0 < i) {a : Ac} (ha : t.acts[i]? = some a) {p : Ph} {l : List Op} (hat : a.at = some (p, l)) : ThPh t.d S (some p) := by
  have h0 := h.th i a hi ha
  rcases at_mem hat with ⟨e, _⟩ | ⟨e, op, e2, rfl⟩
  · rwa [e] at h0
  · have ho := h.thT i a hi ha op (by rw [e2]; simp)
    subst ho
    trivial
theorem head_snoc {S : List Int} {x : Int} (hn : S ≠ []) (y : Int) (h : (S ++ [x]).head? = some y) : S.head? = some y := by
  cases S with
  | nil => exact absurd rfl hn
  | cons z S => simpa using h
theorem RInv.step {t : T} {S : List Int} (h : RInv t S) {i : Nat} {a : Ac} (ha : t.acts[i]? = some a) {p : Ph} {l : List Op} (hat : a.at = some (p, l)) :
    ∃ S' e, RInv ⟨(p.run t.d).1, t.acts.set i (a.after l (p.run t.d))⟩ S' ∧ Ev.items e S S' ∧ EvAt i p t.d (p.run t.d) e ∧ (p.run t.d).1.cells.length = t.d.cells.length := by
  have hil : i < t.acts.length := (List.getElem?_eq_some_iff.1 ha).1
  have hself : ∀ {b : Ac}, (t.acts.set i (a.after l (p.run t.d)))[i]? = some b → b = a.after l (p.run t.d) := fun e => by rw [List.getElem?_set_self hil] at e; cases e; rfl
  have hoth : ∀ {j : Nat} {b : Ac}, j ≠ i → (t.acts.set i (a.after l (p.run t.d)))[j]? = some b → t.acts[j]? = some b := fun hj e => by rwa [List.getElem?_set_ne (Ne.symm hj)] at e
  have hleft := at_left hat
  have hlaft : (a.after l (p.run t.d)).left ≤ l.length + 1 := by
    unfold Ac.after Ac.left
    simp only
    split <;> omega
  have hga : ∀ (j : Nat) b, (t.acts.set i (a.after l (p.run t.d)))[j]? = some b → b.got.length + b.left ≤ 100 := fun j b e => by
    by_cases hj : j = i
    · subst hj
      rw [hself e]
      have h1 := h.gl j a ha
      unfold Ac.after Ac.left
      simp only
      cases hn : (p.run t.d).2.1 with
      | none => simp; omega
      | some q => simp; omega
    · exact h.gl j b (hoth hj e)
  have htd : ∀ op ∈ l, op ∈ a.todo := fun op ho => by
    rcases at_mem hat with ⟨_, e⟩ | ⟨_, op', e, _⟩
    · rw [← e]; exact ho
    · rw [e]; simp [ho]
  by_cases hi0 : i = 0
  · subst hi0
    obtain ⟨S', e, h1, h2, h3, h4, h5⟩ := own_step h.dk (h.ownAt ha hat)
    have htop : (p.run t.d).1.top = t.d.top ∧ ((S ≠ [] → S' ≠ []) ∧ (∀ x, S.head? = some x → S'.head? = some x)) ∨ (p.run t.d).1.top = t.d.top + 1 := by
      rcases h5 with ⟨q, hq, _, rfl, ht⟩ | ⟨hq, _, ⟨x, _, _, ht, rfl | rfl⟩ | ⟨_, ⟨rfl, ht⟩ | ⟨x, rfl, _, ⟨ht, hn⟩ | ⟨ht, _⟩⟩⟩⟩
      · have e : S' = S := h3
        subst e; exact .inl ⟨ht, fun h => h, fun _ h => h⟩
      · have e : S' = S := h3
        subst e; exact .inl ⟨ht, fun h => h, fun _ h => h⟩
      · have e : S' = S ++ [x] := h3
        subst e
        refine .inl ⟨ht, fun _ => by simp, fun y hy => ?_⟩
        cases S with
        | nil => simp at hy
        | cons z S => simpa using hy
      · have e : S' = S := h3
        subst e; exact .inl ⟨ht, fun h => h, fun _ h => h⟩
      · have e : S = S' ++ [x] := h3
        subst e
        exact .inl ⟨ht, fun _ => hn, fun y hy => head_snoc hn y hy⟩
      · exact .inr ht
    have hcnt : (p.run t.d).1.top + S'.length + (a.after l (p.run t.d)).left ≤ t.d.top + S.length + a.left := by
      have hle : (p.run t.d).2.1 = none → (a.after l (p.run t.d)).left = l.length := fun hq => by unfold Ac.after Ac.left; simp [hq]
      rcases h5 with ⟨q, hq, _, rfl, ht⟩ | ⟨hq, _, ⟨x, _, _, ht, rfl | rfl⟩ | ⟨_, ⟨rfl, ht⟩ | ⟨x, rfl, _, ⟨ht, hn⟩ | ⟨ht, _⟩⟩⟩⟩
      · have e : S' = S := h3
        subst e; omega
      · have e : S' = S := h3
        subst e; omega
      · have e : S' = S ++ [x] := h3
        subst e
        have := hle hq
        simp; omega
      · have e : S' = S := h3
        subst e; omega
      · have e : S = S' ++ [x] := h3
        subst e
        simp; omega
      · have e : S = S' ++ [x] := h3
        subst e
        simp; omega
    refine ⟨S', e, ⟨h1, fun b eb => ?_, fun b eb => ?_, fun j b hj eb => ?_, fun j b hj eb => ?_, fun b eb => ?_, hga, by simpa using h.n0⟩, h3, ⟨fun hq => ?_, fun hq => ?_, fun hq _ => ?_, fun _ hh => by omega, fun _ q hq => ?_⟩, h4⟩
    · rw [hself eb]; exact h2
    · rw [hself eb]; exact fun op ho => h.ownT a ha op (htd op ho)
    · exact thief_own (h.th j b hj (hoth (by omega) eb)) htop
    · exact h.thT j b hj (hoth (by omega) eb)
    · rw [hself eb]
      have := h.tot a ha
      show (p.run t.d).1.top + S'.length + _ ≤ 100
      omega
    · rcases h5 with ⟨q, hq2, _, he, ht⟩ | ⟨hq2, _⟩
      · exact ⟨he, ht⟩
      · rw [hq2] at hq; simp at hq
    · rcases h5 with ⟨q, hq2, _, he, ht⟩ | ⟨hq2, hr, _⟩
      · rw [hq2] at hq; simp at hq
      · exact hr
    · rcases h5 with ⟨q, hq2, _, he, ht⟩ | ⟨hq2, hr, h6⟩
      · rw [hq2] at hq; simp at hq
      · rcases h6 with h6 | ⟨h6, h7 | ⟨x, h7, h8, h9⟩⟩
        · exact .inl h6
        · exact .inr ⟨h6, .inl h7⟩
        · exact .inr ⟨h6, .inr ⟨x, h7, h8, h9.imp (fun h => h.1) (fun h => h.1)⟩⟩
    · rcases h5 with ⟨q', hq2, hpp, he, ht⟩ | ⟨hq2, hr, _⟩
      · rw [hq2] at hq; cases hq; exact hpp
      · rw [hq2] at hq; cases hq
  · have hip : 0 < i := by omega
    obtain ⟨o, ho⟩ : ∃ o, t.acts[0]? = some o := ⟨_, List.getElem?_eq_getElem h.n0⟩
    obtain ⟨S', e, h1, h2, h3, h4, h5, h6⟩ := thief_step h.dk (h.thAt hip ha hat) (h.own o ho)
    have h0 : ∀ b, (t.acts.set i (a.after l (p.run t.d)))[0]? = some b → b = o := fun b eb => by
      have := hoth (j := 0) (by omega) eb
      rw [ho] at this; cases this; rfl
    have htop : (p.run t.d).1.top = t.d.top ∧ S' = S ∨ (p.run t.d).1.top = t.d.top + 1 ∧ ∃ x, S = x :: S' := by
      rcases h6 with ⟨q, hq, rfl, ht⟩ | ⟨hq, _, ⟨rfl, ht⟩ | ⟨rfl, ht, _⟩ | ⟨x, rfl, _, ht⟩⟩
      · exact .inl ⟨ht, h4⟩
      · exact .inl ⟨ht, h4⟩
      · exact .inl ⟨ht, h4⟩
      · exact .inr ⟨ht, x, h4⟩
    refine ⟨S', e, ⟨h1, fun b eb => ?_, fun b eb => ?_, fun j b hj eb => ?_, fun j b hj eb => ?_, fun b eb => ?_, hga, by simpa using h.n0⟩, h4, ⟨fun hq => ?_, fun hq => ?_, fun _ hh => by omega, fun hq _ => ?_, fun hh => by omega⟩, h5⟩
    · rw [h0 b eb]; exact h3
    · rw [h0 b eb]; exact h.ownT o ho
    · by_cases hji : j = i
      · subst hji; rw [hself eb]; exact h2
      · refine thief_own (h.th j b hj (hoth hji eb)) ?_
        rcases htop with ⟨ht, hs⟩ | ⟨ht, _⟩
        · exact .inl ⟨ht, by rw [hs]; exact fun h => h, by rw [hs]; exact fun _ h => h⟩
        · exact .inr ht
    · by_cases hji : j = i
      · subst hji; rw [hself eb]
        exact fun op ho => h.thT j a hj ha op (htd op ho)
      · exact h.thT j b hj (hoth hji eb)
    · rw [h0 b eb]
      have := h.tot o ho
      show (p.run t.d).1.top + S'.length + _ ≤ 100
      rcases htop with ⟨ht, hs⟩ | ⟨ht, x, hs⟩
      · rw [ht, hs]; exact this
      · rw [hs] at this; simp at this; omega
    · rcases h6 with ⟨q, hq2, he, ht⟩ | ⟨hq2, _⟩
      · exact ⟨he, ht⟩
      · rw [hq2] at hq; simp at hq
    · rcases h6 with ⟨q, hq2, he, ht⟩ | ⟨hq2, hr, _⟩
      · rw [hq2] at hq; simp at hq
      · exact hr
    · rcases h6 with ⟨q, hq2, he, ht⟩ | ⟨hq2, hr, h7⟩
      · rw [hq2] at hq; simp at hq
      · exact h7
end St
end Go.Proofs.Ytajccigefoddiaa
