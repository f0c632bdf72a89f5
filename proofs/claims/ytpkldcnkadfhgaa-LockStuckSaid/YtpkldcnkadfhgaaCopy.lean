/- What Copy does: another table with the same state. -/
import Derived.Test.YtpkldcnkadfhgaaClone
namespace Go.Proofs.Ytpkldcnkadfhgaa
open Go.RowKit

/-- A lock more, whose blocks are the table's alone. -/
theorem Rep.push {W W5 : World} {bl : Blocks} {tb lb hb : Nat} {lv v v' : Value} {wv : Nat → Value} {ls : List Nat} {t : Lk.T} {l : Lk.L}
    (hR : Rep W bl tb lv wv ls t) (hK : Lock W lb hb v l) (hlb : ∀ r, bl r ≠ some lb) (hhb : ∀ r, bl r ≠ some hb) (hv : ∀ k, v.ownBlock = some k → (∀ r, bl r ≠ some k) ∧ k ≠ lb ∧ k ≠ hb) (hne : lb ≠ hb)
    (hG : W.grownBy W5 lv.ownBlock) (hrow : W5.ownsRow 0 78 1 v' (t.ls.length + 1) (ptrs ls ++ [.pointer (some ⟨lb, 0, none⟩)])) (hat : v'.ownBlock = lv.ownBlock ∨ v'.ownBlock = some W.heap.size) :
    ∃ bl', Rep (W5.setCell ⟨tb, 0, none⟩ v') bl' tb v' (fun j => if j = ls.length then v else wv j) (ls ++ [lb]) { t with ls := t.ls ++ [l] } ∧ (∀ r k, bl' r = some k → bl r = some k ∨ k = lb ∨ k = hb ∨ v.ownBlock = some k ∨ k = W.heap.size) := by
  have hlen := hR.len
  have htb := hR.lt _ _ hR.hT
  have hlbW := hK.blk.lt
  have hhbW := hK.map.lt
  have hF5 : Fr (fun x => lv.ownBlock = some x) W W5 := Fr.grown (Fr.refl _ _) hG fun x e => .inl e
  have hF : Fr (fun x => lv.ownBlock = some x ∨ x = tb) W (W5.setCell ⟨tb, 0, none⟩ v') := Fr.set (hF5.widen fun x hx _ => .inl hx) (.inl (.inr rfl)) 0 v'
  have hs5 : W.heap.size ≤ W5.heap.size := hG.size
  have off : ∀ r x, bl r = some x → r ≠ (0, 0) → r ≠ (1, 0) → ¬ (lv.ownBlock = some x ∨ x = tb) := fun r x e h0 h1 hx => by
    rcases hx with hx | hx
    · rw [hR.hV] at hx; exact h1 (hR.inj _ _ _ e hx)
    · exact h0 (hR.inj _ _ _ e (hx ▸ hR.hT))
  have offN : ∀ x, (∀ r, bl r ≠ some x) → ¬ (lv.ownBlock = some x ∨ x = tb) := fun x hx e => by
    rcases e with e | e
    · rw [hR.hV] at e; exact hx _ e
    · exact hx _ (e ▸ hR.hT)
  have hvl : lv.ownBlock ≠ some tb := fun e => by rw [hR.hV] at e; have := hR.inj _ _ _ e hR.hT; simp at this
  have hv't : v'.ownBlock ≠ some tb := by
    rcases hat with h | h
    · rw [h]; exact hvl
    · rw [h]; simp; omega
  have hvW : ∀ k, v.ownBlock = some k → k < W.heap.size := hK.line.block
  have i1 : ∀ r r' k, put5 bl (1, 0) v'.ownBlock r = some k → put5 bl (1, 0) v'.ownBlock r' = some k → r = r' := put5_inj hR.inj fun k e r hr e' => by
    rcases hat with h | h
    · rw [h, hR.hV] at e; exact hr (hR.inj _ _ _ e' e)
    · rw [h] at e; cases e; have := hR.lt _ _ e'; omega
  have b1 : ∀ r k, put5 bl (1, 0) v'.ownBlock r = some k → (∃ r, bl r = some k) ∨ k = W.heap.size := fun r k e => by
    by_cases hr : r = (1, 0)
    · subst hr; rw [put5_same] at e
      rcases hat with h | h
      · rw [h, hR.hV] at e; exact .inl ⟨_, e⟩
      · rw [h] at e; cases e; exact .inr rfl
    · rw [put5_other _ _ hr] at e; exact .inl ⟨_, e⟩
  have i2 := put5_inj i1 (r0 := (3, ls.length)) (x := some lb) fun k e r _ e' => by
    cases e
    rcases b1 _ _ e' with ⟨r, h⟩ | h
    · exact hlb _ h
    · omega
  have b2 : ∀ r k, put5 (put5 bl (1, 0) v'.ownBlock) (3, ls.length) (some lb) r = some k → (∃ r, bl r = some k) ∨ k = W.heap.size ∨ k = lb := fun r k e => by
    by_cases hr : r = (3, ls.length)
    · subst hr; rw [put5_same] at e; cases e; exact .inr (.inr rfl)
    · rw [put5_other _ _ hr] at e; rcases b1 _ _ e with h | h
      · exact .inl h
      · exact .inr (.inl h)
  have i3 := put5_inj i2 (r0 := (4, ls.length)) (x := some hb) fun k e r _ e' => by
    cases e
    rcases b2 _ _ e' with ⟨r, h⟩ | h | h
    · exact hhb _ h
    · omega
    · exact hne h.symm
  have b3 : ∀ r k, put5 (put5 (put5 bl (1, 0) v'.ownBlock) (3, ls.length) (some lb)) (4, ls.length) (some hb) r = some k → (∃ r, bl r = some k) ∨ k = W.heap.size ∨ k = lb ∨ k = hb := fun r k e => by
    by_cases hr : r = (4, ls.length)
    · subst hr; rw [put5_same] at e; cases e; exact .inr (.inr (.inr rfl))
    · rw [put5_other _ _ hr] at e; rcases b2 _ _ e with h | h | h
      · exact .inl h
      · exact .inr (.inl h)
      · exact .inr (.inr (.inl h))
  have i4 := put5_inj i3 (r0 := (5, ls.length)) (x := v.ownBlock) fun k e r _ e' => by
    obtain ⟨q1, q2, q3⟩ := hv k e
    rcases b3 _ _ e' with ⟨r, h⟩ | h | h | h
    · exact q1 _ h
    · have := hvW k e; omega
    · exact q2 h
    · exact q3 h
  have hv'lt : ∀ k, v'.ownBlock = some k → k < W5.heap.size := fun k e => (hrow.lt k e).2
  have old : ∀ r, r ≠ (1, 0) → r ≠ (3, ls.length) → r ≠ (4, ls.length) → r ≠ (5, ls.length) → put5 (put5 (put5 (put5 bl (1, 0) v'.ownBlock) (3, ls.length) (some lb)) (4, ls.length) (some hb)) (5, ls.length) v.ownBlock r = bl r := fun r h1 h3 h4 h5 => by
    rw [put5_other _ _ h5, put5_other _ _ h4, put5_other _ _ h3, put5_other _ _ h1]
  have hss : (W5.setCell ⟨tb, 0, none⟩ v').heap.size = W5.heap.size := by simp [World.setCell]
  have hW0 : v'.ownBlock = some W.heap.size → W.heap.size < W5.heap.size := fun h => by have := hv'lt _ h; exact this
  refine ⟨_, ⟨i4, fun r k e => ?_, ?_, ?_, ?_, ?_, by simp [hlen], fun m e => ?_, fun e => ?_, fun j x e => ?_⟩, fun r k e => ?_⟩
  · rw [hss]
    by_cases h5 : r = (5, ls.length)
    · subst h5; rw [put5_same] at e; exact Nat.lt_of_lt_of_le (hvW k e) hs5
    · rw [put5_other _ _ h5] at e
      by_cases h4 : r = (4, ls.length)
      · subst h4; rw [put5_same] at e; cases e; omega
      · rw [put5_other _ _ h4] at e
        by_cases h3 : r = (3, ls.length)
        · subst h3; rw [put5_same] at e; cases e; omega
        · rw [put5_other _ _ h3] at e
          by_cases h1 : r = (1, 0)
          · subst h1; rw [put5_same] at e; exact hv'lt k e
          · rw [put5_other _ _ h1] at e; have := hR.lt _ _ e; omega
  · rw [old _ (by simp) (by simp) (by simp) (by simp)]; exact hR.hT
  · rw [put5_other _ _ (by simp), put5_other _ _ (by simp), put5_other _ _ (by simp), put5_same]
  · rw [old _ (by simp) (by simp) (by simp) (by simp)]
    refine ((hR.blk.fr hF5 (fun e => hvl e)).set (by omega : 0 < 2) v').ext fun q hq => ?_
    have : q = 0 ∨ q = 1 := by omega
    rcases this with rfl | rfl <;> simp [upd, tG]
  · have e1 : ptrs (ls ++ [lb]) = ptrs ls ++ [.pointer (some ⟨lb, 0, none⟩)] := by simp [ptrs]
    have e2 : ({ t with ls := t.ls ++ [l] } : Lk.T).ls.length = t.ls.length + 1 := by simp
    rw [e1, e2]
    exact owns_fr hrow (S := fun x => x = tb) (Fr.set (S := fun x => x = tb) (Fr.refl _ _) (.inl rfl) 0 v') fun k e e' => hv't (e' ▸ e)
  · rw [old _ (by simp) (by simp) (by simp) (by simp)] at e
    exact (hR.waits m e).fr hF (off _ _ e (by simp) (by simp))
  · rw [old _ (by simp) (by simp) (by simp) (by simp)] at e
    exact hR.waits0 e
  · by_cases hj : j < t.ls.length
    · have e' : t.ls[j]? = some x := by simp only at e; rwa [List.getElem?_append_left hj] at e
      obtain ⟨lb', hb', h1, h2, h3, h4, h5⟩ := hR.lock j x e'
      have hjn : j ≠ ls.length := by omega
      have n3 : ((3, j) : Nat × Nat) ≠ (3, ls.length) := by simpa using hjn
      have n4 : ((4, j) : Nat × Nat) ≠ (4, ls.length) := by simpa using hjn
      have n5 : ((5, j) : Nat × Nat) ≠ (5, ls.length) := by simpa using hjn
      refine ⟨lb', hb', by rw [old _ (by simp) n3 (by simp) (by simp)]; exact h1, by rw [List.getElem?_append_left (by omega)]; exact h2, by rw [old _ (by simp) (by simp) n4 (by simp)]; exact h3, by rw [old _ (by simp) (by simp) (by simp) n5]; simpa [hjn] using h4, ?_⟩
      simp only [hjn, if_false]
      exact h5.fr hF (off _ _ h1 (by simp) (by simp)) (off _ _ h3 (by simp) (by simp)) fun k e => off (5, j) k (by rw [← h4]; exact e) (by simp) (by simp)
    · have hjl : j < (t.ls ++ [l]).length := (List.getElem?_eq_some_iff.1 e).1
      have hj2 : j = ls.length := by simp at hjl; omega
      have ex : x = l := by
        simp only at e
        rw [List.getElem?_append_right (by omega)] at e
        have := List.mem_of_getElem? e; simpa using this
      subst hj2 ex
      refine ⟨lb, hb, by rw [put5_other _ _ (by simp), put5_other _ _ (by simp), put5_same], by simp, by rw [put5_other _ _ (by simp), put5_same], by rw [put5_same]; simp, ?_⟩
      simp only [if_true]
      exact hK.fr hF (offN _ hlb) (offN _ hhb) fun k e => offN _ (hv k e).1
  · by_cases h5 : r = (5, ls.length)
    · subst h5; rw [put5_same] at e; exact .inr (.inr (.inr (.inl e)))
    · rw [put5_other _ _ h5] at e
      by_cases h4 : r = (4, ls.length)
      · subst h4; rw [put5_same] at e; cases e; exact .inr (.inr (.inl rfl))
      · rw [put5_other _ _ h4] at e
        by_cases h3 : r = (3, ls.length)
        · subst h3; rw [put5_same] at e; cases e; exact .inr (.inl rfl)
        · rw [put5_other _ _ h3] at e
          by_cases h1 : r = (1, 0)
          · subst h1; rw [put5_same] at e
            rcases hat with h | h
            · rw [h, hR.hV] at e; exact .inl e
            · rw [h] at e; cases e; exact .inr (.inr (.inr (.inr rfl)))
          · rw [put5_other _ _ h1] at e; exact .inl e

/-- The copy so far. -/
structure Cop (w : World) (bl : Blocks) (tb : Nat) (t : Lk.T) (cb i : Nat) (bc : Blocks) (wt : World) : Prop where
  rep : ∃ lv wv ls, Rep wt bc cb lv wv ls { t with ls := t.ls.take i }
  new : ∀ r k, bc r = some k → w.heap.size ≤ k
  bel : Below w.heap.size w wt
def copyPost (w : World) (t : Lk.T) (e : Ending) (w' : World) : Prop := ∃ bc cb, e = .returned (.pointer (some ⟨cb, 0, none⟩)) ∧ Tab w' bc cb t ∧ (∀ r k, bc r = some k → w.heap.size ≤ k) ∧ Below w.heap.size w w'

/-- A table without locks. -/
theorem Rep.fresh {W : World} {t : Lk.T} {m : Option Nat} (hm : ∀ b, m = some b → MapIs W b t.waits) (h0 : m = none → t.waits = []) :
    Rep (W.alloc (.cells #[.slice none 0 0, .map m] 68)) (fun r => if r = (0, 0) then some W.heap.size else if r = (2, 0) then m else none) W.heap.size (.slice none 0 0) (fun _ => .slice none 0 0) [] { t with ls := t.ls.take 0 } := by
  have hlt : ∀ b, m = some b → b < W.heap.size := fun b e => (hm b e).lt
  refine ⟨fun r r' k e e' => ?_, fun r k e => ?_, by simp, by simp [Value.ownBlock], (Blk.new W _ 68).ext fun o ho => ?_, World.ownsRow_nil _ _ _ _, by simp, fun b e => ?_, fun e => ?_, fun i l e => by simp at e⟩
  · by_cases h1 : r = (0, 0)
    · subst h1
      by_cases h2 : r' = (0, 0)
      · exact h2.symm
      · simp only [if_true] at e
        cases e
        simp only [h2, if_false] at e'
        split at e'
        · have := hlt _ e'; omega
        · cases e'
    · simp only [h1, if_false] at e
      split at e
      · rename_i h3
        subst h3
        by_cases h2 : r' = (0, 0)
        · subst h2
          simp only [if_true] at e'
          cases e'
          have := hlt _ e; omega
        · simp only [h2, if_false] at e'
          split at e'
          · rename_i h4; exact h4.symm
          · cases e'
      · cases e
  · by_cases h1 : r = (0, 0)
    · subst h1; simp only [if_true] at e; cases e; simp
    · simp only [h1, if_false] at e
      split at e
      · have := hlt _ e; simp; omega
      · cases e
  · have : o = 0 ∨ o = 1 := by simp at ho; omega
    rcases this with rfl | rfl <;> simp [tG]
  · simp at e; exact (hm b e).alloc _
  · simp at e; exact h0 e
end Go.Proofs.Ytpkldcnkadfhgaa
