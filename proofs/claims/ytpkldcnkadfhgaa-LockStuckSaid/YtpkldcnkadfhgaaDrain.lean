/- What freeAll makes of a state: plainly. -/
import Derived.Test.YtpkldcnkadfhgaaFree2
namespace Go.Proofs.Ytpkldcnkadfhgaa
open Go.RowKit

namespace Lk
/-- One permit is freed. -/
def step1 (i : Nat) (p : Int) (s : T × List Int) : T × List Int :=
  match s.1.ls[i]? with
  | none => s
  | some l => if kget l.held p = 0 then s else ((free s.1 i l p).1, if 0 < (freed l p).2 then s.2 ++ [(freed l p).2] else s.2)
def iter (i : Nat) (p : Int) : Nat → T × List Int → T × List Int
  | 0, s => s
  | k + 1, s => step1 i p (iter i p k s)
def perLock (i : Nat) (p : Int) (s : T × List Int) : T × List Int :=
  match s.1.ls[i]? with
  | none => s
  | some l => iter i p (kget l.held p).toNat s
def allLocks (p : Int) : Nat → T × List Int → T × List Int
  | 0, s => s
  | j + 1, s => perLock j p (allLocks p j s)
def drain : Nat → T → List Int → T
  | 0, t, _ => t
  | _ + 1, t, [] => t
  | n + 1, t, p :: r => drain n (allLocks p t.ls.length (t, r)).1 (allLocks p t.ls.length (t, r)).2
theorem drain_nil (n : Nat) (t : T) : drain n t [] = t := by cases n <;> rfl

structure SOk (n N : Nat) (s : T × List Int) : Prop where
  ok : TOk s.1
  len : s.1.ls.length = n
  ps : ∀ p ∈ s.2, isP p
  wt : s.1.waits.length + s.2.length = N
theorem length_del {k v : Int} : ∀ {l : KV}, Asc l → (k, v) ∈ l → (kdel k l).length + 1 = l.length
  | [], _, h => by cases h
  | p :: r, ha, h => by
    obtain ⟨a1, a2⟩ := List.pairwise_cons.1 ha
    by_cases hp : p.1 = k
    · have e : kdel k (p :: r) = r := by
        have e1 : kdel k (p :: r) = kdel k r := by simp [kdel, hp]
        rw [e1]
        unfold kdel
        rw [List.filter_eq_self]
        intro q hq
        have := a1 q hq
        have : q.1 ≠ k := by omega
        simp [this]
      rw [e]; rfl
    · have hm : (k, v) ∈ r := by
        rcases List.mem_cons.1 h with h | h
        · subst h; exact absurd rfl hp
        · exact h
      have ih := length_del a2 hm
      have e1 : kdel k (p :: r) = p :: kdel k r := by simp [kdel, hp]
      rw [e1]
      simp only [List.length_cons]
      omega
theorem SOk.step1 {n N : Nat} {s : T × List Int} (h : SOk n N s) (i : Nat) (p : Int) : SOk n N (step1 i p s) := by
  unfold Lk.step1
  cases hl : s.1.ls[i]? with
  | none => exact h
  | some l =>
    simp only
    by_cases h0 : kget l.held p = 0
    · rw [if_pos h0]; exact h
    · rw [if_neg h0]
      have hok := h.ok.free hl h0
      have hlo := h.ok.ok l (List.mem_of_getElem? hl)
      cases hw : l.wait with
      | nil =>
        have ef : freed l p = ({ l with free := l.free + 1, held := less l.held p }, 0) := by unfold freed; rw [hw]
        have e0 : ¬ (0 < (freed l p).2) := by rw [ef]; simp
        rw [if_neg e0]
        have hz := h.ok.noZero
        refine ⟨hok, by have := h.len; simpa [free] using this, h.ps, ?_⟩
        have : (free s.1 i l p).1.waits = s.1.waits := by unfold free; rw [ef]; exact hz
        rw [this]; exact h.wt
      | cons q r =>
        have ef : (freed l p).2 = q := by unfold freed; rw [hw]
        have hq : isP q := hlo.ps q (by rw [hw]; simp)
        have e0 : 0 < (freed l p).2 := by rw [ef]; unfold isP at hq; omega
        rw [if_pos e0]
        have hm := h.ok.w1 i l q hl (by rw [hw]; simp)
        have hd := length_del h.ok.asc hm
        refine ⟨hok, by have := h.len; simpa [free] using this, fun x hx => ?_, ?_⟩
        · rcases List.mem_append.1 hx with hx | hx
          · exact h.ps x hx
          · simp at hx; subst hx; rw [ef]; exact hq
        · have : (free s.1 i l p).1.waits = kdel q s.1.waits := by unfold free; rw [ef]
          rw [this]
          have := h.wt
          simp only [List.length_append, List.length_cons, List.length_nil]
          omega
theorem SOk.iter {n N : Nat} {s : T × List Int} (h : SOk n N s) (i : Nat) (p : Int) : ∀ k, SOk n N (iter i p k s)
  | 0 => h
  | k + 1 => (SOk.iter h i p k).step1 i p
theorem SOk.perLock {n N : Nat} {s : T × List Int} (h : SOk n N s) (i : Nat) (p : Int) : SOk n N (perLock i p s) := by
  unfold Lk.perLock
  cases hl : s.1.ls[i]? with
  | none => exact h
  | some l => exact h.iter i p _
theorem SOk.allLocks {n N : Nat} {s : T × List Int} (h : SOk n N s) (p : Int) : ∀ j, SOk n N (allLocks p j s)
  | 0 => h
  | j + 1 => (SOk.allLocks h p j).perLock j p
/-- A party frees everything, and then all who wait no more thereby. -/
def freeAll (t : T) (p : Int) : T := drain (t.waits.length + 1) t [p]
end Lk
/-- The least number of which something is true. -/
theorem exists_least {R : Nat → Prop} : ∀ n, R n → ∃ m, R m ∧ ∀ k, R k → m ≤ k := by
  intro n
  induction n using Nat.strongRecOn with
  | ind n ih =>
    intro h
    by_cases hk : ∃ k, k < n ∧ R k
    · obtain ⟨k, hk, hr⟩ := hk
      exact ih k hk hr
    · exact ⟨n, h, fun k hr => by
        by_cases hkn : k < n
        · exact absurd ⟨k, hkn, hr⟩ hk
        · omega⟩
open Classical in
noncomputable def least (R : Nat → Prop) : Nat := if h : ∃ m, R m ∧ ∀ k, R k → m ≤ k then h.choose else 0
theorem least_spec {R : Nat → Prop} {n : Nat} (h : R n) : R (least R) ∧ least R ≤ n := by
  have he := exists_least n h
  unfold least
  rw [dif_pos he]
  exact ⟨he.choose_spec.1, he.choose_spec.2 n h⟩
end Go.Proofs.Ytpkldcnkadfhgaa
