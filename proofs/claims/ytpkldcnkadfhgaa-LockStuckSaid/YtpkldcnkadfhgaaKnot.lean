/- Knots: parties that wait for one another. -/
import Derived.Test.YtpkldcnkadfhgaaCopRel
namespace Go.Proofs.Ytpkldcnkadfhgaa
namespace Lk

/-- Each of S waits for a lock that is held by S alone. -/
def Knot (t : T) (S : Int → Prop) : Prop := ∀ p, S p → ∃ (i : Nat) (l : L), t.ls[i]? = some l ∧ p ∈ l.wait ∧ ∀ q, kget l.held q ≠ 0 → S q

theorem TOk.one {t : T} (h : TOk t) {i j : Nat} {l l' : L} {p : Int} (hl : t.ls[i]? = some l) (hl' : t.ls[j]? = some l') (hp : p ∈ l.wait) (hp' : p ∈ l'.wait) : i = j := by
  have g1 := kget_of_mem h.asc (h.w1 i l p hl hp)
  have g2 := kget_of_mem h.asc (h.w1 j l' p hl' hp')
  omega
theorem Knot.waits {t : T} {S : Int → Prop} (hk : Knot t S) (h : TOk t) {p : Int} (hp : S p) : khas t.waits p = true := by
  obtain ⟨i, l, hl, hw, -⟩ := hk p hp
  exact khas_mem.2 ⟨_, h.w1 i l p hl hw⟩
theorem Knot.other {t t' : T} {S : Int → Prop} (hk : Knot t S) {i : Nat} (hs : ∀ j, j ≠ i → t'.ls[j]? = t.ls[j]?) (hi : ∀ p l, S p → t.ls[i]? = some l → p ∈ l.wait → (∀ q, kget l.held q ≠ 0 → S q) → ∃ l', t'.ls[i]? = some l' ∧ p ∈ l'.wait ∧ ∀ q, kget l'.held q ≠ 0 → S q) : Knot t' S := by
  intro p hp
  obtain ⟨j, l, hl, hw, hh⟩ := hk p hp
  by_cases hji : j = i
  · subst hji
    obtain ⟨l', h1, h2, h3⟩ := hi p l hp hl hw hh
    exact ⟨j, l', h1, h2, h3⟩
  · exact ⟨j, l, by rw [hs j hji]; exact hl, hw, hh⟩
theorem set_ne {ls : List L} {i j : Nat} {x : L} (h : j ≠ i) : (ls.set i x)[j]? = ls[j]? := by
  rw [List.getElem?_set]
  simp [Ne.symm h]
theorem set_eq {ls : List L} {i : Nat} {l x : L} (h : ls[i]? = some l) : (ls.set i x)[i]? = some x := by
  have := (List.getElem?_eq_some_iff.1 h).1
  simp [List.getElem?_set, this]
/-- Who holds something and is not of the knot frees something. -/
theorem Knot.free {t : T} {S : Int → Prop} (hk : Knot t S) {i : Nat} {l : L} {p : Int} (hl : t.ls[i]? = some l) (h0 : kget l.held p ≠ 0) (hp : ¬ S p) : Knot (free t i l p).1 S := by
  refine hk.other (i := i) (fun j hj => set_ne hj) fun q l' hq hl' hw hh => ?_
  rw [hl] at hl'
  cases hl'
  exact absurd (hh p h0) hp
/-- The party that gets what is freed is not of the knot. -/
theorem Knot.next {t : T} {S : Int → Prop} (hk : Knot t S) (h : TOk t) {i : Nat} {l : L} {p : Int} (hl : t.ls[i]? = some l) (h0 : kget l.held p ≠ 0) (hp : ¬ S p) (hn : 0 < (freed l p).2) : ¬ S (freed l p).2 := by
  intro hs
  cases hw : l.wait with
  | nil =>
    have e : (freed l p).2 = 0 := by unfold freed; rw [hw]
    omega
  | cons q r =>
    have e : (freed l p).2 = q := by unfold freed; rw [hw]
    rw [e] at hs
    obtain ⟨j, l', hl', hw', hh⟩ := hk q hs
    have : i = j := h.one hl hl' (by rw [hw]; simp) hw'
    subst this
    rw [hl] at hl'
    cases hl'
    exact hp (hh p h0)
theorem Knot.hold {t : T} {S : Int → Prop} (hk : Knot t S) {i : Nat} {l : L} {p : Int} (hl : t.ls[i]? = some l) : Knot (hold t i l p).1 S := by
  unfold Lk.hold
  split
  · rename_i hc
    refine hk.other (i := i) (fun j hj => set_ne hj) fun q l' hq hl' hw hh => ?_
    rw [hl] at hl'
    cases hl'
    rw [hc.1] at hw
    cases hw
  · refine hk.other (i := i) (fun j hj => set_ne hj) fun q l' hq hl' hw hh => ?_
    rw [hl] at hl'
    cases hl'
    exact ⟨_, set_eq hl, by simp [hw], hh⟩
theorem Knot.withdraw {t : T} {S : Int → Prop} (hk : Knot t S) {i : Nat} {l : L} {p : Int} (hl : t.ls[i]? = some l) (hp : ¬ S p) : Knot (withdraw t i l p) S := by
  refine hk.other (i := i) (fun j hj => set_ne hj) fun q l' hq hl' hw hh => ?_
  rw [hl] at hl'
  cases hl'
  exact ⟨_, set_eq hl, (List.mem_erase_of_ne (fun e : q = p => hp (by rw [← e]; exact hq))).2 hw, hh⟩
theorem Knot.make {t : T} {S : Int → Prop} (hk : Knot t S) (n : Int) : Knot (make t n) S := by
  intro p hp
  obtain ⟨j, l, hl, hw, hh⟩ := hk p hp
  exact ⟨j, l, by unfold Lk.make; simp only; rw [List.getElem?_append_left (List.getElem?_eq_some_iff.1 hl).1]; exact hl, hw, hh⟩

/-! ### draining leaves a knot -/
structure KOk (n N : Nat) (S : Int → Prop) (s : T × List Int) : Prop extends SOk n N s where
  knot : Knot s.1 S
  out : ∀ x ∈ s.2, ¬ S x
theorem KOk.step1 {n N : Nat} {S : Int → Prop} {s : T × List Int} (h : KOk n N S s) (i : Nat) {p : Int} (hp : ¬ S p) : KOk n N S (step1 i p s) := by
  refine ⟨h.toSOk.step1 i p, ?_, ?_⟩
  · unfold Lk.step1
    cases hl : s.1.ls[i]? with
    | none => exact h.knot
    | some l =>
      simp only
      by_cases h0 : kget l.held p = 0
      · rw [if_pos h0]; exact h.knot
      · rw [if_neg h0]; exact h.knot.free hl h0 hp
  · unfold Lk.step1
    cases hl : s.1.ls[i]? with
    | none => exact h.out
    | some l =>
      simp only
      by_cases h0 : kget l.held p = 0
      · rw [if_pos h0]; exact h.out
      · rw [if_neg h0]
        by_cases hn : 0 < (freed l p).2
        · simp only [if_pos hn]
          intro x hx
          rcases List.mem_append.1 hx with hx | hx
          · exact h.out x hx
          · simp at hx; subst hx; exact h.knot.next h.ok hl h0 hp hn
        · simp only [if_neg hn]; exact h.out
theorem KOk.iter {n N : Nat} {S : Int → Prop} {s : T × List Int} (h : KOk n N S s) (i : Nat) {p : Int} (hp : ¬ S p) : ∀ k, KOk n N S (iter i p k s)
  | 0 => h
  | k + 1 => (KOk.iter h i hp k).step1 i hp
theorem KOk.perLock {n N : Nat} {S : Int → Prop} {s : T × List Int} (h : KOk n N S s) (i : Nat) {p : Int} (hp : ¬ S p) : KOk n N S (perLock i p s) := by
  unfold Lk.perLock
  cases hl : s.1.ls[i]? with
  | none => exact h
  | some l => exact h.iter i hp _
theorem KOk.allLocks {n N : Nat} {S : Int → Prop} {s : T × List Int} (h : KOk n N S s) {p : Int} (hp : ¬ S p) : ∀ j, KOk n N S (allLocks p j s)
  | 0 => h
  | j + 1 => (KOk.allLocks h hp j).perLock j hp
theorem KOk.drain {n : Nat} {S : Int → Prop} : ∀ (N : Nat) (t : T) (todo : List Int), KOk n N S (t, todo) → Knot (drain N t todo) S
  | 0, _, _, h => h.knot
  | _ + 1, _, [], h => h.knot
  | N + 1, t, p :: r, h => by
    have h1 : KOk n N S (t, r) := ⟨⟨h.ok, h.len, fun x hx => h.ps x (by simp [hx]), by have := h.wt; simp at this ⊢; omega⟩, h.knot, fun x hx => h.out x (by simp [hx])⟩
    exact KOk.drain N _ _ (h1.allLocks (h.out p (by simp)) t.ls.length)
theorem Knot.freeAll {t : T} {S : Int → Prop} (hk : Knot t S) (h : TOk t) {p : Int} (hp : isP p) (hS : ¬ S p) : Knot (freeAll t p) S :=
  KOk.drain (n := t.ls.length) _ _ _ ⟨⟨h, rfl, fun x hx => (by simp at hx; subst hx; exact hp), rfl⟩, hk, fun x hx => (by simp at hx; subst hx; exact hS)⟩
theorem Knot.fold {S : Int → Prop} : ∀ (l : List Int) (t : T), Knot t S → TOk t → (∀ p ∈ l, isP p) → Knot (l.foldl stuckStep t) S
  | [], _, hk, _, _ => hk
  | p :: r, t, hk, h, hp => by
    have key : Knot (stuckStep t p) S ∧ TOk (stuckStep t p) := by
      unfold stuckStep
      by_cases hw : khas t.waits p = true
      · rw [if_pos hw]; exact ⟨hk, h⟩
      · rw [if_neg hw]
        exact ⟨hk.freeAll h (hp p (by simp)) fun hs => hw (hk.waits h hs), freeAll_ok h (hp p (by simp))⟩
    exact Knot.fold r _ key.1 key.2 fun x hx => hp x (by simp [hx])
/-- Each knot is stuck. -/
theorem Knot.stuck {t : T} {S : Int → Prop} (hk : Knot t S) (h : TOk t) {p : Int} (hp : S p) : p ∈ stuck t := by
  have hk' := hk.fold (holders t) t h (holders_p h)
  have h' := stuckFold_ok (holders t) t h (holders_p h)
  have hw := hk'.waits h' hp
  obtain ⟨v, hv⟩ := khas_mem.1 hw
  exact List.mem_map.2 ⟨_, hv, rfl⟩
end Lk
end Go.Proofs.Ytpkldcnkadfhgaa
