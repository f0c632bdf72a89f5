/- Those that are stuck are a knot: the loops. -/
import Derived.Test.YtpkldcnkadfhgaaKnot2
namespace Go.Proofs.Ytpkldcnkadfhgaa
namespace Lk

theorem Mv.iter {n N : Nat} {p : Int} {R : Int → Prop} {s : T × List Int} (h : SOk n N s) (m : Mv p R s) (i : Nat) : ∀ k : Nat,
    Mv p R (iter i p k s) ∧ To p s (iter i p k s) ∧ ∀ l l', s.1.ls[i]? = some l → (iter i p k s).1.ls[i]? = some l' → (k : Int) ≤ kget l.held p → kget l'.held p = kget l.held p - k
  | 0 => ⟨m, To.refl _ _, fun l l' e e' _ => by
      have e' : s.1.ls[i]? = some l' := e'
      rw [e] at e'; cases e'; simp⟩
  | k + 1 => by
    obtain ⟨m1, t1, a1⟩ := Mv.iter h m i k
    obtain ⟨m2, t2, a2⟩ := m1.step1 (h.iter i p k) i
    refine ⟨m2, t1.trans t2, fun l l' e e' hk => ?_⟩
    have hi : i < (Lk.iter i p k s).1.ls.length := by rw [t1.len]; exact (List.getElem?_eq_some_iff.1 e).1
    have em : (Lk.iter i p k s).1.ls[i]? = some ((Lk.iter i p k s).1.ls[i]) := List.getElem?_eq_getElem hi
    have g1 := a1 l _ e em (by omega)
    have g2 := a2 _ l' em e' (by omega)
    rw [g2, g1]
    omega
theorem Mv.perLock {n N : Nat} {p : Int} {R : Int → Prop} {s : T × List Int} (h : SOk n N s) (m : Mv p R s) (i : Nat) :
    Mv p R (perLock i p s) ∧ To p s (perLock i p s) ∧ ∀ l', (perLock i p s).1.ls[i]? = some l' → kget l'.held p = 0 := by
  unfold Lk.perLock
  cases hl : s.1.ls[i]? with
  | none => exact ⟨m, To.refl _ _, fun l' e => by simp only at e; rw [hl] at e; cases e⟩
  | some l =>
    simp only
    have h0 := (h.ok.ok l (List.mem_of_getElem? hl)).held_0 p
    obtain ⟨m1, t1, a1⟩ := Mv.iter h m i (kget l.held p).toNat
    refine ⟨m1, t1, fun l' e' => ?_⟩
    have := a1 l l' hl e' (by omega)
    omega
theorem Mv.allLocks {n N : Nat} {p : Int} {R : Int → Prop} {s : T × List Int} (h : SOk n N s) (m : Mv p R s) : ∀ j : Nat,
    Mv p R (allLocks p j s) ∧ To p s (allLocks p j s) ∧ ∀ (i : Nat) l', i < j → (allLocks p j s).1.ls[i]? = some l' → kget l'.held p = 0
  | 0 => ⟨m, To.refl _ _, fun i l' hi _ => by omega⟩
  | j + 1 => by
    obtain ⟨m1, t1, z1⟩ := Mv.allLocks h m j
    obtain ⟨m2, t2, z2⟩ := m1.perLock (h.allLocks p j) j
    refine ⟨m2, t1.trans t2, fun i l' hi e => ?_⟩
    by_cases hij : i = j
    · subst hij; exact z2 l' e
    · have hlt : i < (Lk.allLocks p j s).1.ls.length := by rw [← t2.len]; exact (List.getElem?_eq_some_iff.1 e).1
      have em : (Lk.allLocks p j s).1.ls[i]? = some ((Lk.allLocks p j s).1.ls[i]) := List.getElem?_eq_getElem hlt
      exact t2.zero i _ l' em (z1 i _ (by omega) em) e

/-- Who holds something waits, or is one of these. -/
def Busy (t : T) (R : Int → Prop) : Prop := ∀ (i : Nat) l q, t.ls[i]? = some l → kget l.held q ≠ 0 → khas t.waits q = true ∨ R q
structure Dn (t t' : T) (R : Int → Prop) : Prop where
  busy : Busy t' R
  sub : ∀ k, khas t'.waits k = true → khas t.waits k = true
  back : ∀ S : Int → Prop, (∀ k, S k → khas t'.waits k = true) → Knot t' S → Knot t S
theorem drain_dn {n : Nat} {R : Int → Prop} : ∀ (N : Nat) (t : T) (todo : List Int), SOk n N (t, todo) → (∀ x ∈ todo, khas t.waits x = false) → Busy t (fun q => q ∈ todo ∨ R q) → Dn t (drain N t todo) R
  | N, t, [], h, hw, hb => by
    rw [drain_nil]
    exact ⟨fun i l q hl h0 => (hb i l q hl h0).imp id fun h => by simpa using h, fun _ h => h, fun _ _ h => h⟩
  | 0, t, p :: r, h, hw, hb => by have := h.wt; simp at this
  | N + 1, t, p :: r, h, hw, hb => by
    have h1 : SOk n N (t, r) := ⟨h.ok, h.len, fun x hx => h.ps x (by simp [hx]), by have := h.wt; simp at this ⊢; omega⟩
    have m : Mv p R (t, r) := ⟨hw p (by simp), fun x hx => hw x (by simp [hx]), fun i l q hl h0 => by
      rcases hb i l q hl h0 with h | h | h
      · exact .inl h
      · rcases List.mem_cons.1 h with h | h
        · exact .inr (.inr (.inl h))
        · exact .inr (.inl h)
      · exact .inr (.inr (.inr h))⟩
    obtain ⟨m1, t1, z1⟩ := m.allLocks h1 t.ls.length
    have h2 := h1.allLocks p t.ls.length
    have hd := drain_dn (R := R) N (Lk.allLocks p t.ls.length (t, r)).1 (Lk.allLocks p t.ls.length (t, r)).2 h2 m1.tw (fun i l q hl h0 => by
      rcases m1.en i l q hl h0 with h | h | h | h
      · exact .inl h
      · exact .inr (.inl h)
      · subst h
        refine absurd (z1 i l ?_ hl) h0
        have := (List.getElem?_eq_some_iff.1 hl).1
        rw [t1.len] at this
        exact this
      · exact .inr (.inr h))
    refine ⟨hd.busy, fun k hk => t1.sub k (hd.sub k hk), fun S hS hk => t1.back S (fun hp => ?_) (hd.back S hS hk)⟩
    have h3 := t1.sub p (hd.sub p (hS p hp))
    have h4 := hw p (by simp)
    rw [h4] at h3; cases h3
theorem freeAll_dn {t : T} (h : TOk t) {p : Int} (hp : isP p) {R : Int → Prop} (hw : khas t.waits p = false) (hb : Busy t (fun q => q = p ∨ R q)) : Dn t (freeAll t p) R :=
  drain_dn (n := t.ls.length) _ _ _ ⟨h, rfl, fun x hx => (by simp at hx; subst hx; exact hp), rfl⟩ (fun x hx => (by simp at hx; subst hx; exact hw)) (fun i l q hl h0 => (hb i l q hl h0).imp id fun h => by simpa using h)
theorem fold_dn : ∀ (L : List Int) (t : T), TOk t → (∀ p ∈ L, isP p) → Busy t (fun q => q ∈ L) → Dn t (L.foldl stuckStep t) (fun _ => False)
  | [], t, h, _, hb => ⟨fun i l q hl h0 => (hb i l q hl h0).imp id fun h => by simp at h, fun _ h => h, fun _ _ h => h⟩
  | p :: r, t, h, hp, hb => by
    have hpp := hp p (by simp)
    by_cases hw : khas t.waits p = true
    · have e : stuckStep t p = t := by unfold stuckStep; rw [if_pos hw]
      rw [List.foldl_cons, e]
      refine fold_dn r t h (fun x hx => hp x (by simp [hx])) fun i l q hl h0 => ?_
      rcases hb i l q hl h0 with h | h
      · exact .inl h
      · rcases List.mem_cons.1 h with h | h
        · subst h; exact .inl hw
        · exact .inr h
    · have e : stuckStep t p = freeAll t p := by unfold stuckStep; rw [if_neg hw]
      have hw' : khas t.waits p = false := by simpa using hw
      have d1 := freeAll_dn (R := fun q => q ∈ r) h hpp hw' (fun i l q hl h0 => (hb i l q hl h0).imp id fun h => by simpa using h)
      rw [List.foldl_cons, e]
      have d2 := fold_dn r _ (freeAll_ok h hpp) (fun x hx => hp x (by simp [hx])) d1.busy
      exact ⟨d2.busy, fun k hk => d1.sub k (d2.sub k hk), fun S hS hk => d1.back S (fun k hk => d2.sub k (hS k hk)) (d2.back S hS hk)⟩
/-- Those that are stuck are a knot. -/
theorem stuck_knot {t : T} (h : TOk t) : Knot t (fun p => p ∈ stuck t) := by
  have hd := fold_dn (holders t) t h (holders_p h) fun i l q hl h0 => by
    right
    have hh : khas l.held q = true := by
      cases hc : khas l.held q with
      | true => rfl
      | false => exact absurd (kget_zero hc) h0
    obtain ⟨v, hv⟩ := khas_mem.1 ((heldSet_has t q).2 ⟨i, l, (List.getElem?_eq_some_iff.1 hl).1, hl, hh⟩)
    exact List.mem_map.2 ⟨_, hv, rfl⟩
  have hok := stuckFold_ok (holders t) t h (holders_p h)
  have hmem : ∀ p, p ∈ stuck t ↔ khas ((holders t).foldl stuckStep t).waits p = true := fun p => by
    rw [khas_mem]
    unfold stuck
    constructor
    · intro hp
      obtain ⟨q, hq, rfl⟩ := List.mem_map.1 hp
      exact ⟨q.2, hq⟩
    · rintro ⟨v, hv⟩
      exact List.mem_map.2 ⟨_, hv, rfl⟩
  refine hd.back _ (fun k hk => (hmem k).1 hk) fun p hp => ?_
  obtain ⟨v, hv⟩ := khas_mem.1 ((hmem p).1 hp)
  obtain ⟨i, l, -, hl, hw⟩ := hok.w2 p v hv
  refine ⟨i, l, hl, hw, fun q hq => ?_⟩
  rcases hd.busy i l q hl hq with h | h
  · exact (hmem q).2 h
  · exact h.elim
/-- What another party does leaves a knot. -/
theorem Knot.step {t : T} {S : Int → Prop} (hk : Knot t S) (kd k p : Int) (hp : ¬ S p ∨ kd = 0) : Knot (step t kd k p).1 S := by
  unfold Lk.step
  by_cases k0 : kd = 0
  · rw [if_pos k0]
    split
    · exact hk
    · split
      · exact hk
      · exact hk.make k
  · have hp : ¬ S p := hp.resolve_right k0
    rw [if_neg k0]
    split
    · split
      · exact hk
      · split
        · exact hk
        · split
          · rename_i l hl; exact hk.hold hl
          · exact hk
    · split
      · split
        · exact hk
        · split
          · rename_i l hl
            split
            · exact hk
            · rename_i h0; exact hk.free hl h0 hp
          · exact hk
      · split
        · split
          · split
            · rename_i l hl; exact hk.withdraw hl hp
            · exact hk
          · exact hk
        · exact hk
end Lk
end Go.Proofs.Ytpkldcnkadfhgaa
