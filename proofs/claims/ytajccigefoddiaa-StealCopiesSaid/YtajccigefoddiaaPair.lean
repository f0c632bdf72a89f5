/- A race and its copy, side by side. -/
import Derived.Test.YtajccigefoddiaaCopyR
import Derived.Test.YtajccigefoddiaaKeep
namespace Go.Proofs.Ytajccigefoddiaa
set_option linter.unusedVariables false
set_option linter.unusedSimpArgs false
open Go.RowKit Go.Shelf
open St
def tagN (own : Own) (n m : Nat) : Own := fun k => if n ≤ k ∧ k < m then some .other else own k
theorem tagN_old {own : Own} {n m k : Nat} (h : k < n) : tagN own n m k = own k := by unfold tagN; rw [if_neg (by omega)]
theorem tagN_new {own : Own} {n m k : Nat} (h : n ≤ k) (h2 : k < m) : tagN own n m k = some .other := by unfold tagN; rw [if_pos ⟨h, h2⟩]
section
variable {W W' : World} {own : Own} {rb cb ab cap : Nat} {vs : List Av} {t : St.T}
theorem Rep.frT (h : Rep W own rb cb ab vs cap t) {S : Nat → Prop} (hF : Fr S W W') (h1 : ∀ k, S k → own k = some .other ∨ W.heap.size ≤ k) : Rep W' (tagN own W.heap.size W'.heap.size) rb cb ab vs cap t := by
  have hk : ∀ k r, own k = some r → tagN own W.heap.size W'.heap.size k = some r := fun k r e => by rw [tagN_old (h.lt k r e)]; exact e
  have kn : ∀ k, own k = none → k < W.heap.size → tagN own W.heap.size W'.heap.size k = none ∧ ¬ S k := fun k e hk => ⟨by rw [tagN_old hk]; exact e, fun hs => by rcases h1 k hs with h2 | h2; rw [e] at h2; cases h2; omega⟩
  have kr : ∀ k r, own k = some r → r ≠ .other → ¬ S k := fun k r e hr hs => by
    rcases h1 k hs with h2 | h2
    · rw [e] at h2; exact hr (Option.some.inj h2)
    · have := h.lt k r e; omega
  exact ⟨fun k r e => by
      unfold tagN at e
      split at e
      · rename_i h; exact h.2
      · exact Nat.lt_of_lt_of_le (h.lt k r e) hF.size, hk _ _ h.mr, hk _ _ h.mc, hk _ _ h.ma, h.dq.fr hF (kr _ _ h.mr (by simp)) (kr _ _ h.mc (by simp)), h.blk.fr hF (kr _ _ h.ma (by simp)), h.len, h.n0, h.n9, h.ncap, h.cmax,
    fun i v a e1 e2 => (h.todo i v a e1 e2).fr hF kn, fun i v a e1 e2 => (h.next i v a e1 e2).fr hF kn,
    fun i v a e1 e2 => owns_fr (h.got i v a e1 e2) hF fun k e => kr _ _ (h.gown i v k e1 e) (by simp), h.gl, fun i v k e1 e => hk _ _ (h.gown i v k e1 e)⟩
end
/-- One race in memory, apart from another one's blocks. -/
structure Hf (base : Nat) (W : World) (own : Own) (rb cb ab cap : Nat) (t : St.T) : Prop where
  rep : ∃ vs, Rep W own rb cb ab vs cap t
  inv : ∃ S, RInv t S
  ge : ∀ k r, own k = some r → base ≤ k
theorem Hf.okR {base : Nat} {W : World} {own : Own} {rb cb ab cap : Nat} {t : St.T} (h : Hf base W own rb cb ab cap t) : RcOk t := by obtain ⟨S, hS⟩ := h.inv; exact rcOk_of hS
structure Pr (base : Nat) (W : World) (o1 o2 : Own) (rb1 cb1 ab1 cap1 : Nat) (t1 : St.T) (rb2 cb2 ab2 cap2 : Nat) (t2 : St.T) : Prop where
  h1 : Hf base W o1 rb1 cb1 ab1 cap1 t1
  h2 : Hf base W o2 rb2 cb2 ab2 cap2 t2
  a12 : ∀ k, Mine o1 k → o2 k = some .other
  a21 : ∀ k, Mine o2 k → o1 k = some .other
section
variable {base : Nat} {W W' : World} {o1 o2 : Own} {rb1 cb1 ab1 cap1 : Nat} {t1 : St.T} {rb2 cb2 ab2 cap2 : Nat} {t2 : St.T}
theorem Pr.swap (h : Pr base W o1 o2 rb1 cb1 ab1 cap1 t1 rb2 cb2 ab2 cap2 t2) : Pr base W o2 o1 rb2 cb2 ab2 cap2 t2 rb1 cb1 ab1 cap1 t1 := ⟨h.h2, h.h1, h.a21, h.a12⟩
theorem Hf.tag {own : Own} {rb cb ab cap : Nat} {t : St.T} (h : Hf base W own rb cb ab cap t) (hz : base ≤ W.heap.size) {S : Nat → Prop} (hF : Fr S W W') (h1 : ∀ k, S k → own k = some .other ∨ W.heap.size ≤ k) : Hf base W' (tagN own W.heap.size W'.heap.size) rb cb ab cap t := by
  obtain ⟨vs, hR⟩ := h.rep
  refine ⟨⟨vs, hR.frT hF h1⟩, h.inv, fun k r e => ?_⟩
  unfold tagN at e
  split at e
  · rename_i h; omega
  · exact h.ge k r e
/-- What both see as another's turns, or is new. -/
theorem Pr.grow (h : Pr base W o1 o2 rb1 cb1 ab1 cap1 t1 rb2 cb2 ab2 cap2 t2) (hz : base ≤ W.heap.size) {S : Nat → Prop} (hF : Fr S W W') (hs : ∀ k, S k → o1 k = some .other ∧ o2 k = some .other ∨ W.heap.size ≤ k) :
    ∃ p1 p2, Pr base W' p1 p2 rb1 cb1 ab1 cap1 t1 rb2 cb2 ab2 cap2 t2 ∧ (∀ k, k < W.heap.size → p1 k = o1 k ∧ p2 k = o2 k) ∧ ∀ k, W.heap.size ≤ k → k < W'.heap.size → p1 k = some .other ∧ p2 k = some .other := by
  refine ⟨_, _, ⟨h.h1.tag hz hF (fun k hk => (hs k hk).imp (fun h => h.1) id), h.h2.tag hz hF (fun k hk => (hs k hk).imp (fun h => h.2) id), fun k hk => ?_, fun k hk => ?_⟩, fun k hk => ⟨tagN_old hk, tagN_old hk⟩, fun k h1 h2 => ⟨tagN_new h1 h2, tagN_new h1 h2⟩⟩
  · obtain ⟨r, e, hr⟩ := hk
    unfold tagN at e ⊢
    split
    · rfl
    · rename_i hn; rw [if_neg hn] at e; exact h.a12 k ⟨r, e, hr⟩
  · obtain ⟨r, e, hr⟩ := hk
    unfold tagN at e ⊢
    split
    · rfl
    · rename_i hn; rw [if_neg hn] at e; exact h.a21 k ⟨r, e, hr⟩
/-- The first one makes a step. -/
theorem Pr.step (h : Pr base W o1 o2 rb1 cb1 ab1 cap1 t1 rb2 cb2 ab2 cap2 t2) (hz : base ≤ W.heap.size) (x : Int) (hG : Gone W o1 rb1 cb1 ab1 cap1 (t1.step x).1 W') :
    ∃ p1 p2, Pr base W' p1 p2 rb1 cb1 ab1 cap1 (t1.step x).1 rb2 cb2 ab2 cap2 t2 ∧ (∀ k, k < W.heap.size → p1 k = o1 k ∧ p2 k = o2 k) ∧ Fr (Mine o1) W W' := by
  obtain ⟨p1, vs, hR, hk, hF⟩ := hG
  obtain ⟨S, hS⟩ := h.h1.inv
  refine ⟨p1, tagN o2 W.heap.size W'.heap.size, ⟨⟨⟨vs, hR⟩, inv_step hS x, fun k r e => ?_⟩, h.h2.tag hz hF (fun k hk => .inl (h.a12 k hk)), fun k hk2 => ?_, fun k hk2 => ?_⟩, fun k h1 => ⟨hk k h1, tagN_old h1⟩, hF⟩
  · by_cases hl : k < W.heap.size
    · rw [hk k hl] at e; exact h.h1.ge k r e
    · omega
  · obtain ⟨r, e, hr⟩ := hk2
    by_cases hl : k < W.heap.size
    · rw [tagN_old hl]
      rw [hk k hl] at e
      exact h.a12 k ⟨r, e, hr⟩
    · exact tagN_new (by omega) (hR.lt k r e)
  · obtain ⟨r, e, hr⟩ := hk2
    unfold tagN at e
    split at e
    · cases e; exact absurd rfl hr
    · rename_i hn
      obtain ⟨vs2, hR2⟩ := h.h2.rep
      have hl := hR2.lt k r e
      rw [hk k hl]
      exact h.a21 k ⟨r, e, hr⟩
theorem Pr.bel (h : Pr base W o1 o2 rb1 cb1 ab1 cap1 t1 rb2 cb2 ab2 cap2 t2) (hz : base ≤ W.heap.size) (hF : Fr (Mine o1) W W') : Below base W W' := hF.below (fun k hk => by obtain ⟨r, e, _⟩ := hk; exact h.h1.ge k r e) hz
theorem Pr.stepC (h : Pr base W o1 o2 rb1 cb1 ab1 cap1 t1 rb2 cb2 ab2 cap2 t2) (x : Int) : Calls Try.prog 18 #[ptr rb1, .int .i64 x] W (stepPostR W o1 rb1 cb1 ab1 cap1 (t1.step x)) := by
  obtain ⟨vs, hR⟩ := h.h1.rep
  exact Step_any hR h.h1.okR x
theorem Pr.gotC (h : Pr base W o1 o2 rb1 cb1 ab1 cap1 t1 rb2 cb2 ab2 cap2 t2) (x : Int) : Calls Try.prog 24 #[ptr rb1, .int .i64 x] W (numsPost W (t1.gotOf x)) := by
  obtain ⟨vs, hR⟩ := h.h1.rep
  exact Got_any hR x
theorem Pr.restC (h : Pr base W o1 o2 rb1 cb1 ab1 cap1 t1 rb2 cb2 ab2 cap2 t2) : Calls Try.prog 21 #[ptr rb1] W (numsPost W t1.d.rest) := by
  obtain ⟨vs, hR⟩ := h.h1.rep
  exact Rest_any hR
end
/-- A copy is made. -/
theorem Rn.copyC {w0 wr : World} {own : Own} {rb cb ab cap : Nat} {t : St.T} (h : Rn w0 own rb cb ab cap t wr) : Calls Try.prog 19 #[ptr rb] wr fun e w' => ∃ rb2 cb2 ab2 cap2 o1 o2, e = .returned (ptr rb2) ∧ Pr w0.heap.size w' o1 o2 rb cb ab cap t rb2 cb2 ab2 cap2 t ∧ Below wr.heap.size wr w' := by
  obtain ⟨vs, hR⟩ := h.ow.rep
  refine (copy_any hR).mono fun e w' hc => ?_
  obtain ⟨b2, g5, g, c, o2, v2, he, hR2, ho, hb⟩ := hc
  have hz := h.ow.bel.size
  have old : ∀ k r, o2 k = some r → r ≠ .other → wr.heap.size ≤ k := fun k r e hr => by
    by_cases hk : k < wr.heap.size
    · rw [ho k hk] at e
      cases h1 : own k with
      | none => rw [h1] at e; cases e
      | some r' => rw [h1] at e; cases e; exact absurd rfl hr
    · omega
  refine ⟨b2, g5, g, c, tagN own wr.heap.size w'.heap.size, o2, he, ⟨⟨⟨vs, hR.frT (S := none_) (Fr.of_below hb) (fun k hk => hk.elim)⟩, h.inv, fun k r e => ?_⟩, ⟨⟨v2, hR2⟩, h.inv, fun k r e => ?_⟩, fun k hk => ?_, fun k hk => ?_⟩, hb⟩
  · unfold tagN at e
    split at e
    · rename_i h; omega
    · exact h.ow.ge k r e
  · by_cases hk : k < wr.heap.size
    · rw [ho k hk] at e
      cases h1 : own k with
      | none => rw [h1] at e; cases e
      | some r' => exact h.ow.ge k r' h1
    · omega
  · obtain ⟨r, e, hr⟩ := hk
    unfold tagN at e
    split at e
    · cases e; exact absurd rfl hr
    · have hl := hR.lt k r e
      rw [ho k hl, e]; rfl
  · obtain ⟨r, e, hr⟩ := hk
    exact tagN_new (old k r e hr) (hR2.lt k r e)
end Go.Proofs.Ytajccigefoddiaa
