/- A copy of a race, while its actors' results are cloned. -/
import Derived.Test.YtajccigefoddiaaEqb
namespace Go.Proofs.Ytajccigefoddiaa
set_option linter.unusedVariables false
set_option linter.unusedSimpArgs false
open Go.RowKit Go.Shelf
/-- The first k results are the copy's own. -/
structure Cp (w : World) (own : Own) (vs : List Av) (t : St.T) (W : World) (own2 : Own) (rb2 cb2 ab2 : Nat) (vs2 : List Av) (cap2 : Nat) (k : Nat) : Prop where
  lt : ∀ k r, own2 k = some r → k < W.heap.size
  old : ∀ k, k < w.heap.size → own2 k = (own k).map fun _ => .other
  mr : own2 rb2 = some .race
  mc : own2 cb2 = some .cells
  ma : own2 ab2 = some .acts
  nr : w.heap.size ≤ rb2 ∧ w.heap.size ≤ cb2 ∧ w.heap.size ≤ ab2
  dq : Dr W rb2 cb2 (.slice (some ⟨ab2, 0, none⟩) t.acts.length cap2) t.d
  blk : Blk W ab2 (vs2.flatMap acC)
  len : vs2.length = vs.length
  sam : ∀ (i : Nat) v2, vs2[i]? = some v2 → ∃ v, vs[i]? = some v ∧ v2.todo = v.todo ∧ v2.next = v.next ∧ (k ≤ i → v2.got = v.got)
  got : ∀ (i : Nat) v2 a, i < k → vs2[i]? = some v2 → t.acts[i]? = some a → W.ownsRow 0 3 1 v2.got a.got.length (ints a.got)
  gown : ∀ (i : Nat) v2 kk, i < k → vs2[i]? = some v2 → v2.got.ownBlock = some kk → own2 kk = some (.got i)
  bel : Below w.heap.size w W
section
variable {w W W' : World} {own own2 : Own} {rb cb ab cap rb2 cb2 ab2 cap2 k : Nat} {vs vs2 : List Av} {t : St.T}
theorem Cp.below (h : Cp w own vs t W own2 rb2 cb2 ab2 vs2 cap2 k) (hb : Below W.heap.size W W') : Cp w own vs t W' own2 rb2 cb2 ab2 vs2 cap2 k :=
  ⟨fun k r e => Nat.lt_of_lt_of_le (h.lt k r e) hb.size, h.old, h.mr, h.mc, h.ma, h.nr, h.dq.below hb, h.blk.below hb h.blk.lt, h.len, h.sam, fun i v2 a h1 h2 h3 => owns_fr (S := none_) (h.got i v2 a h1 h2 h3) (Fr.of_below hb) (fun _ _ h => h), h.gown, h.bel.trans (hb.mono h.bel.size)⟩
theorem Cp.all (hR : Rep w own rb cb ab vs cap t) (h : Cp w own vs t W own2 rb2 cb2 ab2 vs2 cap2 k) (hk : t.acts.length ≤ k) (hc : t.acts.length ≤ cap2) (hm : cap2 ≤ maxLen) : Rep W own2 rb2 cb2 ab2 vs2 cap2 t := by
  have hn : ∀ k, own k = none → k < w.heap.size → own2 k = none ∧ ¬ none_ k := fun k e hk => ⟨by rw [h.old k hk, e]; rfl, fun h => h⟩
  have il : ∀ (i : Nat) v2, vs2[i]? = some v2 → i < k := fun i v2 e => by
    have := (List.getElem?_eq_some_iff.1 e).1
    have := h.len
    have := hR.len
    omega
  refine ⟨h.lt, h.mr, h.mc, h.ma, h.dq, h.blk, by rw [h.len]; exact hR.len, hR.n0, hR.n9, hc, hm, fun i v2 a e1 e2 => ?_, fun i v2 a e1 e2 => ?_, fun i v2 a e1 e2 => h.got i v2 a (il i v2 e1) e1 e2, hR.gl, fun i v2 kk e1 e2 => h.gown i v2 kk (il i v2 e1) e1 e2⟩
  · obtain ⟨v, e3, e4, _, _⟩ := h.sam i v2 e1
    rw [e4]
    exact (hR.todo i v a e3 e2).fr (Fr.of_below h.bel) hn
  · obtain ⟨v, e3, _, e4, _⟩ := h.sam i v2 e1
    rw [e4]
    exact (hR.next i v a e3 e2).fr (Fr.of_below h.bel) hn
theorem flat_set1 : ∀ {vs : List Av} {i : Nat} {v : Av} (g : Value), vs[i]? = some v → (vs.flatMap acC).set (i * 3 + 2) g = (vs.set i ⟨v.todo, v.next, g⟩).flatMap acC
  | [], i, v, g, h => by simp at h
  | x :: l, 0, v, g, h => by simp at h; subst h; rfl
  | x :: l, i + 1, v, g, h => by
    have ih := flat_set1 (vs := l) (i := i) g (by simpa using h)
    rw [show (i + 1) * 3 + 2 = i * 3 + 2 + 1 + 1 + 1 by omega]
    simp only [List.flatMap_cons, List.cons_append, List.nil_append, List.set_cons_succ]
    rw [← ih]
/-- One more result is cloned. -/
theorem Cp.one (h : Cp w own vs t W own2 rb2 cb2 ab2 vs2 cap2 k) {W1 : World} {g : Value} {a : St.Ac} (ha : t.acts[k]? = some a) (hl : vs.length = t.acts.length) (hown : W1.ownsRow W.heap.size 3 1 g a.got.length (ints a.got)) (hb : Below W.heap.size W W1) :
    ∃ own3 vs3, Cp w own vs t (W1.setCell ⟨ab2, k * 3 + 2, none⟩ g) own3 rb2 cb2 ab2 vs3 cap2 (k + 1) := by
  have h1 := h.below hb
  have hk : k < vs2.length := by have := (List.getElem?_eq_some_iff.1 ha).1; have := h.len; omega
  obtain ⟨v2, hv2⟩ : ∃ v2, vs2[k]? = some v2 := ⟨_, List.getElem?_eq_getElem hk⟩
  have hF := frA W1 ab2 (k * 3 + 2) g
  have hgb : ∀ kk, g.ownBlock = some kk → W.heap.size ≤ kk ∧ kk < W1.heap.size := fun kk e => hown.lt kk e
  have hz := h.bel.size
  have hnr := h.nr
  have ne : ∀ kk r, own2 kk = some r → g.ownBlock ≠ some kk := fun kk r e e2 => by have := h.lt kk r e; have := hgb kk e2; omega
  have hne1 : rb2 ≠ ab2 := fun e => by have h2 := h.mr; rw [e, h.ma] at h2; cases h2
  have hne2 : cb2 ≠ ab2 := fun e => by have h2 := h.mc; rw [e, h.ma] at h2; cases h2
  have hkeep : ∀ kk r, own2 kk = some r → put own2 g.ownBlock (.got k) kk = some r := fun kk r e => by
    unfold put; rw [if_neg (ne kk r e)]; exact e
  refine ⟨put own2 g.ownBlock (.got k), vs2.set k ⟨v2.todo, v2.next, g⟩, ?_⟩
  refine ⟨fun kk r e => ?_, fun kk hk => ?_, hkeep _ _ h.mr, hkeep _ _ h.mc, hkeep _ _ h.ma, h.nr, h1.dq.fr hF hne1 hne2, ?_, by rw [List.length_set]; exact h.len, fun i v e => ?_, fun i v b hi e1 e2 => ?_, fun i v kk hi e1 e2 => ?_, h1.bel.trans (hF.below (fun x hx => by omega) h1.bel.size)⟩
  · show kk < (W1.setCell ⟨ab2, k * 3 + 2, none⟩ g).heap.size
    rw [World.size_setCell]
    unfold put at e
    split at e
    · rename_i e2; exact (hgb kk e2).2
    · exact h1.lt kk r e
  · unfold put
    rw [if_neg (fun e => by have := (hgb kk e).1; omega)]
    exact h.old kk hk
  · have := h1.blk.set (o := k * 3 + 2) (by rw [flat_len3]; omega) g
    rw [flat_set1 g hv2] at this
    exact this
  · by_cases hi : i = k
    · subst hi
      rw [List.getElem?_set_self hk] at e
      cases e
      obtain ⟨v, e3, e4, e5, _⟩ := h.sam i v2 hv2
      exact ⟨v, e3, e4, e5, fun h => by omega⟩
    · rw [List.getElem?_set_ne (Ne.symm hi)] at e
      obtain ⟨v', e3, e4, e5, e6⟩ := h.sam i v e
      exact ⟨v', e3, e4, e5, fun h => e6 (by omega)⟩
  · by_cases hi2 : i = k
    · subst hi2
      rw [List.getElem?_set_self hk] at e1
      cases e1
      rw [ha] at e2
      cases e2
      refine owns_fr (owns_base0 hown) hF (fun kk e => ?_)
      have := hgb kk e
      have := h.lt ab2 _ h.ma
      omega
    · rw [List.getElem?_set_ne (Ne.symm hi2)] at e1
      refine owns_fr (h1.got i v b (by omega) e1 e2) hF (fun kk e hh => ?_)
      have h2 := h.gown i v kk (by omega) e1 e
      rw [hh, h.ma] at h2
      cases h2
  · by_cases hi2 : i = k
    · subst hi2
      rw [List.getElem?_set_self hk] at e1
      cases e1
      unfold put
      rw [if_pos e2]
    · rw [List.getElem?_set_ne (Ne.symm hi2)] at e1
      exact hkeep _ _ (h.gown i v kk (by omega) e1 e2)
end
end Go.Proofs.Ytajccigefoddiaa
