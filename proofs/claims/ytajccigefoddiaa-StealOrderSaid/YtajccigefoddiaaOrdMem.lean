/- StealOrder: the plan in memory while its numbers are written anew. -/
import Derived.Test.YtajccigefoddiaaRelab
import Derived.Test.YtajccigefoddiaaClip2
namespace Go.Proofs.Ytajccigefoddiaa
set_option linter.unusedVariables false
set_option linter.unusedSimpArgs false
open Go.RowKit Go.Shelf
open St
theorem owns_set {W : World} {b n cap g k : Nat} {t : TypeId} {xs : List Value} (h : W.ownsRow b t 1 (.slice (some ⟨g, 0, none⟩) n cap) n xs) (hk : k < n) (u : Value) : (W.setCell ⟨g, k, none⟩ u).ownsRow b t 1 (.slice (some ⟨g, 0, none⟩) n cap) n (xs.set k u) := by
  refine ⟨by rw [List.length_set]; exact h.1, ?_⟩
  rcases h.2 with ⟨h1, _⟩ | ⟨g', cap', cur, e, hbg, hg, h1, h2, h3, h4⟩
  · cases h1
  · cases e
    refine .inr ⟨g, cap, cur.setIfInBounds k u, rfl, hbg, by simp [World.setCell, Array.getElem?_modify, hg], h1, h2, by simpa using h3, ?_⟩
    rw [Array.toList_setIfInBounds, List.take_set, h4]
/-- While the numbers are written anew. -/
structure Ord1 (w : World) (base b1 : Nat) (r : Int) (p q : Option Addr) (cp cq : Nat) (l lt : List Int) (k : Nat) (wr : World) : Prop where
  ins : Ins base wr r p q cp cq (mid l k) lt
  blk : Blk wr b1 [.int .i64 r, .slice p l.length cp, .slice q lt.length cq]
  nb : ∀ g off, p = some ⟨g, off, none⟩ → g ≠ b1
  lo : w.heap.size ≤ base
  bel : Below w.heap.size w wr
section
variable {w wr : World} {base b1 : Nat} {r : Int} {p q : Option Addr} {cp cq : Nat} {l lt : List Int} {k : Nat}
theorem Ord1.skip (h : Ord1 w base b1 r p q cp cq l lt k wr) {x : Int} (hx : l[k]? = some x) (h0 : ¬ 0 < x) : Ord1 w base b1 r p q cp cq l lt (k + 1) wr := by
  have e := mid_succ l k x hx
  rw [if_neg h0] at e
  refine ⟨by rw [e]; exact h.ins, h.blk, h.nb, h.lo, h.bel⟩
theorem Ord1.form (h : Ord1 w base b1 r p q cp cq l lt k wr) (hk : k < l.length) : ∃ g, p = some ⟨g, 0, none⟩ ∧ g < wr.heap.size ∧ (∀ x, l[k]? = some x → wr.cell? ⟨g, k, none⟩ = some (.int .i64 x)) ∧ wr.frozen? ⟨g, k, none⟩ = false := by
  have ho := h.ins.own
  rw [mid_length] at ho
  rcases ho.2 with ⟨h1, h0⟩ | ⟨g, cap', cur, e, hbg, hg, _⟩
  · omega
  · cases e
    have ho' := h.ins.own
    obtain ⟨c1, c2⟩ := row_ints ho'
    refine ⟨g, rfl, (Array.getElem?_eq_some_iff.1 hg).1, fun x hx => ?_, c2 k⟩
    have := c1 k (by rw [mid_length]; exact hk)
    rw [List.getD_eq_getElem?_getD, mid_get l k hk, hx] at this
    simpa using this
theorem Ord1.store (h : Ord1 w base b1 r p q cp cq l lt k wr) {x : Int} (hx : l[k]? = some x) (h0 : 0 < x) (hlt : 0 < lt.length) {g : Nat} (hp : p = some ⟨g, 0, none⟩) : Ord1 w base b1 r p q cp cq l lt (k + 1) (wr.setCell ⟨g, k, none⟩ (.int .i64 ((cntP l k : Int) + 1))) := by
  subst hp
  have hk := (List.getElem?_eq_some_iff.1 hx).1
  have e := mid_succ l k x hx
  rw [if_pos h0] at e
  have ho := h.ins.own
  have hg := owns_at ho rfl
  have hs := owns_set (k := k) ho (by rw [mid_length]; exact hk) (.int .i64 ((cntP l k : Int) + 1))
  have hin : ints ((mid l k).set k ((cntP l k : Int) + 1)) = (ints (mid l k)).set k (.int .i64 ((cntP l k : Int) + 1)) := by unfold ints; rw [List.map_set]
  have hl2 : ((mid l k).set k ((cntP l k : Int) + 1)).length = (mid l k).length := List.length_set
  have hown : (wr.setCell ⟨g, k, none⟩ (.int .i64 ((cntP l k : Int) + 1))).ownsRow base 3 1 (.slice (some ⟨g, 0, none⟩) ((mid l k).set k ((cntP l k : Int) + 1)).length cp) ((mid l k).set k ((cntP l k : Int) + 1)).length (ints ((mid l k).set k ((cntP l k : Int) + 1))) := by rw [hl2, hin]; exact hs
  have hF := frA wr g k (.int .i64 ((cntP l k : Int) + 1))
  refine ⟨?_, h.blk.fr hF (fun e => h.nb g 0 rfl e.symm), h.nb, h.lo, h.bel.trans (hF.below (fun x hx => by have := h.lo; omega) h.bel.size)⟩
  rw [e]
  refine ⟨⟨by rw [hl2]; exact h.ins.pl.h1, h.ins.pl.h2, h.ins.pl.h3, h.ins.pl.h4, nums_at hown, ?_⟩, hown, h.ins.gq, fun h1 h2 => h.ins.ap (by rw [← hl2]; exact h1) h2⟩
  exact h.ins.pl.n2.fr hF (fun g' off' e' hg' => h.ins.ap (by rw [mid_length]; omega) hlt g 0 g' off' rfl e' hg'.symm)
end
theorem Ins.base {b b' : Nat} {wx : World} {r : Int} {p q : Option Addr} {cp cq : Nat} {lo lt : List Int} (h : Ins b wx r p q cp cq lo lt) (hb : b' ≤ b) : Ins b' wx r p q cp cq lo lt :=
  ⟨h.pl, owns_base h.own hb, fun g off e => Nat.le_trans hb (h.gq g off e), h.ap⟩
theorem Ins.below {b : Nat} {wx W : World} {r : Int} {p q : Option Addr} {cp cq : Nat} {lo lt : List Int} (h : Ins b wx r p q cp cq lo lt) (hb : Below wx.heap.size wx W) : Ins b W r p q cp cq lo lt :=
  ⟨h.pl.below hb, owns_fr (S := none_) h.own (Fr.of_below hb) (fun _ _ h => h), h.gq, h.ap⟩
end Go.Proofs.Ytajccigefoddiaa
