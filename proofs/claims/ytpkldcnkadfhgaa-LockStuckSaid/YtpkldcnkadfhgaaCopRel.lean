/- LockCopies: what the loops keep. -/
import Derived.Test.YtpkldcnkadfhgaaStuck
namespace Go.Proofs.Ytpkldcnkadfhgaa
open Go.RowKit

namespace Lk
theorem drain_ok {n : Nat} : ∀ (N : Nat) (t : T) (todo : List Int), SOk n N (t, todo) → TOk (drain N t todo)
  | 0, t, _, h => h.ok
  | N + 1, t, [], h => h.ok
  | N + 1, t, p :: r, h => by
    have h1 : SOk n N (t, r) := ⟨h.ok, h.len, fun x hx => h.ps x (by simp [hx]), by have := h.wt; simp at this ⊢; omega⟩
    exact drain_ok N _ _ (h1.allLocks p t.ls.length)
theorem freeAll_ok {t : T} (h : TOk t) {p : Int} (hp : isP p) : TOk (freeAll t p) :=
  drain_ok (n := t.ls.length) _ _ _ ⟨h, rfl, fun x hx => (by simp at hx; subst hx; exact hp), rfl⟩
theorem stuckFold_ok : ∀ (l : List Int) (t : T), TOk t → (∀ p ∈ l, isP p) → TOk (l.foldl stuckStep t)
  | [], t, h, _ => h
  | p :: r, t, h, hp => by
    refine stuckFold_ok r _ ?_ fun x hx => hp x (by simp [hx])
    unfold stuckStep
    split
    · exact h
    · exact freeAll_ok h (hp p (by simp))
theorem stuck_len {t : T} (h : TOk t) : (stuck t).length ≤ 1000000 := by
  unfold stuck
  rw [List.length_map]
  exact (stuckFold_ok _ t h (holders_p h)).waits_len
end Lk

/-- Two tables apart. -/
structure Tw (w0 : World) (b1 : Blocks) (t1 : Nat) (T1 : Lk.T) (b2 : Blocks) (t2 : Nat) (T2 : Lk.T) (wt : World) : Prop where
  om : Om w0 b1 t1 T1 wt
  tab : Tab wt b2 t2 T2
  ge : ∀ r k, b2 r = some k → w0.heap.size ≤ k
  dis : ∀ r r' k, b1 r = some k → b2 r' = some k → False
section
variable {w0 wt W : World} {b1 b2 : Blocks} {t1 t2 : Nat} {T1 T2 T1' : Lk.T}
theorem Tw.below (h : Tw w0 b1 t1 T1 b2 t2 T2 wt) (hb : Below wt.heap.size wt W) : Tw w0 b1 t1 T1 b2 t2 T2 W := ⟨h.om.below hb, h.tab.below hb, h.ge, h.dis⟩
theorem Tw.swap (h : Tw w0 b1 t1 T1 b2 t2 T2 wt) : Om w0 b2 t2 T2 wt := ⟨h.tab, h.ge, h.om.bel⟩
theorem Tw.gone (h : Tw w0 b1 t1 T1 b2 t2 T2 wt) (hG : Gone wt b1 t1 T1' W) : ∃ b1', Tw w0 b1' t1 T1' b2 t2 T2 W := by
  obtain ⟨b1', h1, h2, h3⟩ := h.om.gone hG
  refine ⟨b1', h1, h.tab.fr h3 fun r k e ⟨r', e'⟩ => h.dis r' r k e' e, h.ge, fun r r' k e e' => ?_⟩
  rcases h2 r k e with h4 | h4
  · exact h.dis r r' k h4 e'
  · have := h.tab.lt e'; omega
theorem Om.ok (h : Om w0 b1 t1 T1 wt) : Lk.TOk T1 := h.tab.ok
end
end Go.Proofs.Ytpkldcnkadfhgaa
