/- What the steps of a race keep. -/
import Derived.Test.YtajccigefoddiaaSpec
namespace Go.Proofs.Ytajccigefoddiaa
set_option linter.unusedVariables false
set_option linter.unusedSimpArgs false
open Go.RowKit
namespace St
/-- The items lie in the deque. -/
structure Dk (d : Dq) (S : List Int) : Prop where
  rpos : 0 < d.cells.length
  room : S.length ≤ d.cells.length
  cell : ∀ i x, S[i]? = some x → d.cell (d.top + i) = x
  pos : ∀ x ∈ S, 0 < x
/-- Where the owner is. -/
def OwnPh (d : Dq) (S : List Int) : Option Ph → Prop
  | none => d.bottom = (d.top + S.length : Nat)
  | some (.look x) => d.bottom = (d.top + S.length : Nat) ∧ 0 < x
  | some (.write x) => d.bottom = (d.top + S.length : Nat) ∧ S.length < d.cells.length ∧ 0 < x
  | some (.raise x) => d.bottom = (d.top + S.length : Nat) ∧ S.length < d.cells.length ∧ 0 < x ∧ d.cell (d.top + S.length) = x
  | some .lower => d.bottom = (d.top + S.length : Nat)
  | some .compare => d.bottom + 1 = (d.top + S.length : Nat)
  | some .readLast => d.bottom + 1 = (d.top + S.length : Nat) ∧ S.length ≤ 1 ∧ 0 ≤ d.bottom
  | some (.last t x) => d.bottom = (t : Nat) ∧ ((d.top = t ∧ S = [x]) ∨ (d.top = t + 1 ∧ S = []))
  | some _ => False
/-- Where a thief is. -/
def ThPh (d : Dq) (S : List Int) : Option Ph → Prop
  | none => True
  | some .aim => True
  | some (.bound t) => t ≤ d.top
  | some (.reach t) => t ≤ d.top ∧ (t = d.top → S ≠ [])
  | some (.claim t x) => t ≤ d.top ∧ (t = d.top → S.head? = some x)
  | some _ => False
theorem Dk.cell_set {d : Dq} {S : List Int} (h : Dk d S) (hr : S.length < d.cells.length) (x : Int) :
    Dk { d with cells := d.cells.set (d.place (d.top + S.length)) x } S ∧ Dq.cell { d with cells := d.cells.set (d.place (d.top + S.length)) x } (d.top + S.length) = x := by
  refine ⟨⟨by simpa using h.rpos, by simpa using h.room, fun i y hy => ?_, h.pos⟩, ?_⟩
  · have hi : i < S.length := (List.getElem?_eq_some_iff.1 hy).1
    have hc := h.cell i y hy
    simp only [Dq.cell, Dq.place, List.length_set] at hc ⊢
    rw [List.getD_eq_getElem?_getD, List.getElem?_set_ne, ← List.getD_eq_getElem?_getD]
    · exact hc
    · intro e
      have h1 : (d.top + S.length) % d.cells.length = (d.top + i) % d.cells.length := e
      have h2 : (d.top + S.length - (d.top + i)) % d.cells.length = 0 := Nat.sub_mod_eq_zero_of_mod_eq h1
      have h3 : d.top + S.length - (d.top + i) = S.length - i := by omega
      rw [h3, Nat.mod_eq_of_lt (by omega)] at h2
      omega
  · simp only [Dq.cell, Dq.place, List.length_set]
    rw [List.getD_eq_getElem?_getD, List.getElem?_set_self (Nat.mod_lt _ h.rpos)]
    rfl
theorem Dk.tail {d : Dq} {x : Int} {S : List Int} (h : Dk d (x :: S)) (b : Int) : Dk ⟨d.cells, d.top + 1, b⟩ S :=
  ⟨h.rpos, by have := h.room; simp at this; show S.length ≤ d.cells.length; omega, fun i y hy => by
    have := h.cell (i + 1) y (by simpa using hy)
    rw [show d.top + (i + 1) = d.top + 1 + i by omega] at this
    exact this, fun y hy => h.pos y (by simp [hy])⟩
theorem Dk.bot {d : Dq} {S : List Int} (h : Dk d S) (b : Int) : Dk { d with bottom := b } S := ⟨h.rpos, h.room, h.cell, h.pos⟩
theorem Dk.init {d : Dq} {x : Int} {S : List Int} (h : Dk d (S ++ [x])) : Dk d S :=
  ⟨h.rpos, by have := h.room; simp at this; omega, fun i y hy => h.cell i y (by rw [List.getElem?_append_left (List.getElem?_eq_some_iff.1 hy).1]; exact hy), fun y hy => h.pos y (by simp [hy])⟩
theorem Dk.snoc {d : Dq} {x : Int} {S : List Int} (h : Dk d S) (hr : S.length < d.cells.length) (hx : d.cell (d.top + S.length) = x) (h0 : 0 < x) : Dk d (S ++ [x]) :=
  ⟨h.rpos, by simp; omega, fun i y hy => by
    by_cases hi : i < S.length
    · rw [List.getElem?_append_left hi] at hy; exact h.cell i y hy
    · have hi2 := (List.getElem?_eq_some_iff.1 hy).1
      simp at hi2
      obtain rfl : i = S.length := by omega
      rw [List.getElem?_append_right (Nat.le_refl _)] at hy
      simp at hy
      rw [← hy]; exact hx, fun y hy => by simp at hy; rcases hy with hy | rfl; exact h.pos y hy; exact h0⟩
/-- What the end of a step says. -/
inductive Ev where
  | quiet
  | full
  | pushed (x : Int)
  | none_
  | took (x : Int)
  | shut
  | vain
  | stole (x : Int)
def Ev.items : Ev → List Int → List Int → Prop
  | .pushed x, S, S' => S' = S ++ [x]
  | .took x, S, S' => S = S' ++ [x]
  | .stole x, S, S' => S = x :: S'
  | _, S, S' => S' = S
def Ev.res : Ev → Int
  | .full => -1
  | .pushed x => x
  | .took x => x
  | .vain => -1
  | .stole x => x
  | _ => 0
def Ev.isPush : Ph → Option Int
  | .look x => some x
  | .write x => some x
  | .raise x => some x
  | _ => none
/-- What a step of the owner does. -/
theorem own_step {d : Dq} {S : List Int} {p : Ph} (h : Dk d S) (hp : OwnPh d S (some p)) :
    ∃ S' e, Dk (p.run d).1 S' ∧ OwnPh (p.run d).1 S' (p.run d).2.1 ∧ Ev.items e S S' ∧ (p.run d).1.cells.length = d.cells.length ∧
      ((∃ q, (p.run d).2.1 = some q ∧ Ev.isPush q = Ev.isPush p ∧ e = .quiet ∧ (p.run d).1.top = d.top) ∨
       ((p.run d).2.1 = none ∧ (p.run d).2.2 = e.res ∧
         ((∃ x, Ev.isPush p = some x ∧ 0 < x ∧ (p.run d).1.top = d.top ∧ (e = .full ∨ e = .pushed x)) ∨
          (Ev.isPush p = none ∧ (e = .none_ ∧ (p.run d).1.top = d.top ∨ ∃ x, e = .took x ∧ 0 < x ∧ ((p.run d).1.top = d.top ∧ S' ≠ [] ∨ (p.run d).1.top = d.top + 1 ∧ S' = [])))))) := by
  cases p with
  | look x =>
    obtain ⟨h1, h0⟩ := hp
    by_cases hf : d.bottom - d.top = d.cells.length
    · have e : Ph.run d (.look x) = (d, none, -1) := by simp [Ph.run, hf]
      rw [e]
      exact ⟨S, .full, h, h1, rfl, rfl, .inr ⟨rfl, rfl, .inl ⟨x, rfl, h0, rfl, .inl rfl⟩⟩⟩
    · have e : Ph.run d (.look x) = (d, some (.write x), 0) := by simp [Ph.run, hf]
      rw [e]
      exact ⟨S, .quiet, h, ⟨h1, by have := h.room; show S.length < d.cells.length; omega, h0⟩, rfl, rfl, .inl ⟨_, rfl, rfl, rfl, rfl⟩⟩
  | write x =>
    obtain ⟨h1, h2, h0⟩ := hp
    have e : Ph.run d (.write x) = ({ d with cells := d.cells.set (d.place (d.top + S.length)) x }, some (.raise x), 0) := by
      simp only [Ph.run]; rw [show d.bottom.toNat = d.top + S.length by omega]
    rw [e]
    obtain ⟨a, b⟩ := h.cell_set h2 x
    exact ⟨S, .quiet, a, ⟨h1, by simpa using h2, h0, b⟩, rfl, by simp, .inl ⟨_, rfl, rfl, rfl, rfl⟩⟩
  | raise x =>
    obtain ⟨h1, h2, h0, h3⟩ := hp
    refine ⟨S ++ [x], .pushed x, (h.snoc h2 h3 h0).bot _, ?_, rfl, rfl, .inr ⟨rfl, rfl, .inl ⟨x, rfl, h0, rfl, .inr rfl⟩⟩⟩
    simp [OwnPh, Ph.run]; omega
  | lower =>
    refine ⟨S, .quiet, h.bot _, ?_, rfl, rfl, .inl ⟨_, rfl, rfl, rfl, rfl⟩⟩
    have : d.bottom = (d.top + S.length : Nat) := hp
    simp [OwnPh, Ph.run]; omega
  | compare =>
    have h1 : d.bottom + 1 = (d.top + S.length : Nat) := hp
    by_cases hf : d.bottom < d.top
    · have e : Ph.run d .compare = ({ d with bottom := d.top }, none, 0) := by simp [Ph.run, hf]
      rw [e]
      have hS : S = [] := List.eq_nil_of_length_eq_zero (by omega)
      exact ⟨S, .none_, h.bot _, by subst hS; simp [OwnPh], rfl, rfl, .inr ⟨rfl, rfl, .inr ⟨rfl, .inl ⟨rfl, rfl⟩⟩⟩⟩
    · by_cases hg : (d.top : Int) < d.bottom
      · have e : Ph.run d .compare = (d, none, d.cell d.bottom.toNat) := by simp [Ph.run, hf, hg]
        rw [e]
        rcases List.eq_nil_or_concat S with hS | ⟨S', x, hS⟩
        · rw [hS] at h1; simp at h1; omega
        · rw [List.concat_eq_append] at hS
          subst hS
          simp at h1
          have hc := h.cell S'.length x (by simp)
          rw [show d.bottom.toNat = d.top + S'.length by omega, hc]
          exact ⟨S', .took x, h.init, by simp [OwnPh]; omega, rfl, rfl, .inr ⟨rfl, rfl, .inr ⟨rfl, .inr ⟨x, rfl, h.pos x (by simp), .inl ⟨rfl, fun e => by subst e; simp at h1; omega⟩⟩⟩⟩⟩
      · have e : Ph.run d .compare = (d, some .readLast, 0) := by simp [Ph.run, hf, hg]
        rw [e]
        exact ⟨S, .quiet, h, ⟨h1, by omega, by show 0 ≤ d.bottom; omega⟩, rfl, rfl, .inl ⟨_, rfl, rfl, rfl, rfl⟩⟩
  | readLast =>
    obtain ⟨h1, h2, h3⟩ := hp
    refine ⟨S, .quiet, h, ?_, rfl, rfl, .inl ⟨_, rfl, rfl, rfl, rfl⟩⟩
    refine ⟨by show d.bottom = (d.bottom.toNat : Nat); omega, ?_⟩
    cases S with
    | nil => exact .inr ⟨by show d.top = d.bottom.toNat + 1; simp at h1; omega, rfl⟩
    | cons x S =>
      have : S = [] := List.eq_nil_of_length_eq_zero (by simp only [List.length_cons] at h2; omega)
      subst this
      have hc := h.cell 0 x rfl
      have ht : d.bottom.toNat = d.top := by simp at h1; omega
      exact .inl ⟨ht.symm, by show [x] = [d.cell d.bottom.toNat]; rw [ht]; rw [Nat.add_zero] at hc; rw [hc]⟩
  | last t x =>
    obtain ⟨h1, h2⟩ := hp
    rcases h2 with ⟨h2, rfl⟩ | ⟨h2, rfl⟩
    · subst h2
      have e : Ph.run d (.last d.top x) = (⟨d.cells, d.top + 1, ((d.top + 1 : Nat) : Int)⟩, none, x) := by simp [Ph.run]
      rw [e]
      exact ⟨[], .took x, h.tail _, by simp [OwnPh], rfl, rfl, .inr ⟨rfl, rfl, .inr ⟨rfl, .inr ⟨x, rfl, h.pos x (by simp), .inr ⟨rfl, rfl⟩⟩⟩⟩⟩
    · have e : Ph.run d (.last t x) = ({ d with bottom := ((t : Int) + 1) }, none, 0) := by
        have : d.top ≠ t := by omega
        simp [Ph.run, this]
      rw [e]
      exact ⟨[], .none_, h.bot _, by simp [OwnPh]; omega, rfl, rfl, .inr ⟨rfl, rfl, .inr ⟨rfl, .inl ⟨rfl, rfl⟩⟩⟩⟩
  | aim => exact hp.elim
  | bound t => exact hp.elim
  | reach t => exact hp.elim
  | claim t x => exact hp.elim
/-- A thief is where it was, whatever the owner does. -/
theorem thief_own {d d' : Dq} {S S' : List Int} {o : Option Ph} (ht : ThPh d S o) (h : d'.top = d.top ∧ ((S ≠ [] → S' ≠ []) ∧ (∀ x, S.head? = some x → S'.head? = some x)) ∨ d'.top = d.top + 1) : ThPh d' S' o := by
  cases o with
  | none => trivial
  | some p =>
    cases p with
    | aim => trivial
    | bound t => rcases h with ⟨h, _⟩ | h <;> simp only [ThPh] at ht ⊢ <;> omega
    | reach t =>
      rcases h with ⟨h, h2, _⟩ | h
      · exact ⟨by have := ht.1; omega, fun e => h2 (ht.2 (by omega))⟩
      · exact ⟨by have := ht.1; omega, fun e => by have := ht.1; omega⟩
    | claim t x =>
      rcases h with ⟨h, _, h2⟩ | h
      · exact ⟨by have := ht.1; omega, fun e => h2 _ (ht.2 (by omega))⟩
      · exact ⟨by have := ht.1; omega, fun e => by have := ht.1; omega⟩
    | look x => exact ht.elim
    | write x => exact ht.elim
    | raise x => exact ht.elim
    | lower => exact ht.elim
    | compare => exact ht.elim
    | readLast => exact ht.elim
    | last t x => exact ht.elim
/-- The owner is where it was when a thief takes the first item. -/
theorem own_stole {d : Dq} {x : Int} {S : List Int} {o : Option Ph} (hp : OwnPh d (x :: S) o) : OwnPh ⟨d.cells, d.top + 1, d.bottom⟩ S o := by
  cases o with
  | none => simp [OwnPh] at hp ⊢; omega
  | some p =>
    cases p with
    | look y => simp [OwnPh] at hp ⊢; omega
    | write y => simp [OwnPh] at hp ⊢; omega
    | raise y =>
      obtain ⟨h1, h2, h3, h4⟩ := hp
      simp at h1 h2
      refine ⟨by simp; omega, by simp; omega, h3, ?_⟩
      simp only [List.length_cons] at h4
      rw [show d.top + (S.length + 1) = d.top + 1 + S.length by omega] at h4
      exact h4
    | lower => simp [OwnPh] at hp ⊢; omega
    | compare => simp [OwnPh] at hp ⊢; omega
    | readLast =>
      obtain ⟨h1, h2, h3⟩ := hp
      simp only [List.length_cons] at h1 h2
      exact ⟨by simp; omega, by omega, h3⟩
    | last t y =>
      obtain ⟨h1, h2⟩ := hp
      rcases h2 with ⟨h2, h3⟩ | ⟨h2, h3⟩
      · simp at h3
        exact ⟨h1, .inr ⟨by simp; omega, h3.2⟩⟩
      · simp at h3
    | aim => exact hp.elim
    | bound t => exact hp.elim
    | reach t => exact hp.elim
    | claim t y => exact hp.elim
/-- What a step of a thief does. -/
theorem thief_step {d : Dq} {S : List Int} {p : Ph} {o : Option Ph} (h : Dk d S) (hp : ThPh d S (some p)) (ho : OwnPh d S o) :
    ∃ S' e, Dk (p.run d).1 S' ∧ ThPh (p.run d).1 S' (p.run d).2.1 ∧ OwnPh (p.run d).1 S' o ∧ Ev.items e S S' ∧ (p.run d).1.cells.length = d.cells.length ∧
      ((∃ q, (p.run d).2.1 = some q ∧ e = .quiet ∧ (p.run d).1.top = d.top) ∨
       ((p.run d).2.1 = none ∧ (p.run d).2.2 = e.res ∧ (e = .shut ∧ (p.run d).1.top = d.top ∨ (e = .vain ∧ (p.run d).1.top = d.top ∧ ∃ t x, p = .claim t x ∧ t < d.top) ∨ ∃ x, e = .stole x ∧ 0 < x ∧ (p.run d).1.top = d.top + 1))) := by
  cases p with
  | aim => exact ⟨S, .quiet, h, by simp [ThPh, Ph.run], ho, rfl, rfl, .inl ⟨_, rfl, rfl, rfl⟩⟩
  | bound t =>
    have ht : t ≤ d.top := hp
    by_cases hf : d.bottom ≤ t
    · have e : Ph.run d (.bound t) = (d, none, 0) := by simp [Ph.run, hf]
      rw [e]
      exact ⟨S, .shut, h, trivial, ho, rfl, rfl, .inr ⟨rfl, rfl, .inl ⟨rfl, rfl⟩⟩⟩
    · have e : Ph.run d (.bound t) = (d, some (.reach t), 0) := by simp [Ph.run, hf]
      rw [e]
      refine ⟨S, .quiet, h, ⟨ht, fun e => ?_⟩, ho, rfl, rfl, .inl ⟨_, rfl, rfl, rfl⟩⟩
      have e' : t = d.top := e
      rintro rfl
      clear e
      cases o with
      | none => simp [OwnPh] at ho; omega
      | some q =>
        cases q with
        | look x => simp [OwnPh] at ho; omega
        | write x => simp [OwnPh] at ho; omega
        | raise x => simp [OwnPh] at ho; omega
        | lower => simp [OwnPh] at ho; omega
        | compare => simp [OwnPh] at ho; omega
        | readLast => simp [OwnPh] at ho; omega
        | last u x => simp [OwnPh] at ho; omega
        | aim => exact ho.elim
        | bound t => exact ho.elim
        | reach t => exact ho.elim
        | claim t y => exact ho.elim
  | reach t =>
    refine ⟨S, .quiet, h, ⟨hp.1, fun e => ?_⟩, ho, rfl, rfl, .inl ⟨_, rfl, rfl, rfl⟩⟩
    have hn := hp.2 e
    cases S with
    | nil => exact absurd rfl hn
    | cons x S =>
      have := h.cell 0 x rfl
      have e' : t = d.top := e
      subst e'
      rw [Nat.add_zero] at this
      rw [this]; rfl
  | claim t x =>
    by_cases hf : d.top = t
    · have e : Ph.run d (.claim t x) = (⟨d.cells, d.top + 1, d.bottom⟩, none, x) := by simp [Ph.run, hf]
      rw [e]
      have h2 := hp.2 hf.symm
      cases S with
      | nil => simp at h2
      | cons y S =>
        simp at h2
        subst h2
        exact ⟨S, .stole y, h.tail _, trivial, own_stole ho, rfl, rfl, .inr ⟨rfl, rfl, .inr (.inr ⟨y, rfl, h.pos y (by simp), rfl⟩)⟩⟩
    · have e : Ph.run d (.claim t x) = (d, none, -1) := by simp [Ph.run, hf]
      rw [e]
      exact ⟨S, .vain, h, trivial, ho, rfl, rfl, .inr ⟨rfl, rfl, .inr (.inl ⟨rfl, rfl, t, x, rfl, by have := hp.1; omega⟩)⟩⟩
  | look x => exact hp.elim
  | write x => exact hp.elim
  | raise x => exact hp.elim
  | lower => exact hp.elim
  | compare => exact hp.elim
  | readLast => exact hp.elim
  | last t x => exact hp.elim
end St
end Go.Proofs.Ytajccigefoddiaa
