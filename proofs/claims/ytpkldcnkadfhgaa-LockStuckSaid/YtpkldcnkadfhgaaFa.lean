/- The state of freeAll's loops. -/
import Derived.Test.YtpkldcnkadfhgaaDrain
namespace Go.Proofs.Ytpkldcnkadfhgaa
open Go.RowKit

structure Fa (w : World) (bl : Blocks) (tb : Nat) (lv : Value) (ls : List Nat) (v : Value) (s : Lk.T × List Int) (wt : World) : Prop where
  rep : ∃ bl' wv', Rep wt bl' tb lv wv' ls s.1 ∧ (∀ r k, bl' r = some k → bl r = some k ∨ w.heap.size ≤ k) ∧ (∀ r k, bl' r = some k → v.ownBlock ≠ some k)
  ok : Lk.TOk s.1
  fr : Fr (Fp bl) w wt
  line : Line wt v s.2
  own : ∀ k, v.ownBlock = some k → w.heap.size ≤ k
section
variable {w wt W w5 : World} {bl : Blocks} {tb : Nat} {lv v v5 : Value} {ls : List Nat} {s : Lk.T × List Int}
theorem Fa.below (h : Fa w bl tb lv ls v s wt) (hb : Below wt.heap.size wt W) : Fa w bl tb lv ls v s W := by
  obtain ⟨⟨bl', wv', h1, h2, h3⟩, h4, h5, h6, h7⟩ := h
  exact ⟨⟨bl', wv', h1.below hb, h2, h3⟩, h4, h5.below_then hb, h6.below hb, h7⟩
theorem Fa.gone (h : Fa w bl tb lv ls v s wt) : Gone w bl tb s.1 wt := by
  obtain ⟨⟨bl', wv', h1, h2, h3⟩, h4, h5, h6, h7⟩ := h
  exact ⟨bl', ⟨⟨_, _, _, h1⟩, h4⟩, h2, h5⟩
theorem Fa.repOf (h : Fa w bl tb lv ls v s wt) : ∃ bl' wv', Rep wt bl' tb lv wv' ls s.1 := by
  obtain ⟨⟨bl', wv', h1, h2, h3⟩, h4, h5, h6, h7⟩ := h
  exact ⟨_, _, h1⟩
/-- One more waits for its turn. -/
theorem Fa.add (h : Fa w bl tb lv ls v s wt) {o : Obj} {x : Int} (hL : Line w5 v5 (s.2 ++ [x])) (hG : (wt.alloc o).grownBy w5 v.ownBlock) (hat : v5.ownBlock = v.ownBlock ∨ v5.ownBlock = some (wt.alloc o).heap.size) : Fa w bl tb lv ls v5 (s.1, s.2 ++ [x]) w5 := by
  have ha := h.below (one wt o)
  obtain ⟨⟨bl', wv', h1, h2, h3⟩, h4, h5, h6, h7⟩ := ha
  have hF : Fr (fun x => v.ownBlock = some x) (wt.alloc o) w5 := Fr.grown (Fr.refl _ _) hG fun x e => .inl e
  have hz := h5.size
  refine ⟨⟨bl', wv', h1.fr hF (fun r k e e' => h3 r k e e'), h2, fun r k e e' => ?_⟩, h4, h5.thenL hF (fun x hx => .inr (h7 x hx)), hL, fun k e => ?_⟩
  · rcases hat with h0 | h0
    · exact h3 r k e (h0 ▸ e')
    · rw [h0] at e'; cases e'; have := h1.lt _ _ e; omega
  · rcases hat with h0 | h0
    · exact h7 k (h0 ▸ e)
    · rw [h0] at e; cases e; omega
/-- The first one's turn. -/
theorem Fa.pop {g off n cap : Nat} {t : Lk.T} {x : Int} {r : List Int} (h : Fa w bl tb lv ls (.slice (some ⟨g, off, none⟩) n cap) (t, x :: r) wt) : ∃ o, (if cap = 1 then some (⟨g, off, none⟩ : Addr) else some ⟨g, off + 1, none⟩) = some ⟨g, o, none⟩ ∧ Fa w bl tb lv ls (.slice (some ⟨g, o, none⟩) (n - 1) (cap - 1)) (t, r) wt := by
  obtain ⟨⟨bl', wv', h1, h2, h3⟩, h4, h5, h6, h7⟩ := h
  obtain ⟨o, ho, hl⟩ := h6.tail
  exact ⟨o, ho, ⟨bl', wv', h1, h2, fun r k e e' => h3 r k e e'⟩, h4, h5, hl, fun k e => h7 k e⟩
/-- A call of Free. -/
theorem Fa.call (h : Fa w bl tb lv ls v s wt) {i : Nat} {l : Lk.L} {p : Int} (hl : s.1.ls[i]? = some l) (hp : Lk.isP p) :
    Calls Try.prog 16 #[.pointer (some ⟨tb, 0, none⟩), .int .i64 ((i : Int) + 1), .int .i64 p] wt fun e w' =>
      ∃ nx er t', e = .returned (.tuple #[.int .i64 nx, .int .i64 er]) ∧ Fa w bl tb lv ls v (t', s.2) w' ∧ Lk.step1 i p s = (t', if 0 < nx then s.2 ++ [nx] else s.2) := by
  have h' := h
  obtain ⟨⟨bl', wv', h1, h2, h3⟩, h4, h5, h6, h7⟩ := h
  have hi : i < s.1.ls.length := (List.getElem?_eq_some_iff.1 hl).1
  have hc : chk s.1.ls.length ((i : Int) + 1) p = 0 := by
    unfold Lk.isP at hp
    unfold chk
    rw [if_neg (by omega), if_pos (by omega)]
  refine (freeF_any bl' tb lv wv' ls s.1 _ p wt h1 h4).mono ?_
  intro e w' hpost
  unfold freePostF at hpost
  rw [if_neg (by omega)] at hpost
  obtain ⟨i', l', hii, hl', -, hpost⟩ := hpost
  obtain rfl : i = i' := by omega
  rw [hl] at hl'
  cases hl'
  have hst : Lk.step1 i p s = if Lk.kget l.held p = 0 then s else ((Lk.free s.1 i l p).1, if 0 < (Lk.freed l p).2 then s.2 ++ [(Lk.freed l p).2] else s.2) := by unfold Lk.step1; rw [hl]
  rcases hpost with ⟨h0, rfl, hb⟩ | ⟨h0, rfl, bl2, wv2, r1, r2, r3, r4⟩
  · exact ⟨0, 6, s.1, rfl, h'.below hb, by rw [hst, if_pos h0]; simp⟩
  · refine ⟨(Lk.freed l p).2, 0, (Lk.free s.1 i l p).1, rfl, ⟨⟨bl2, wv2, r1, fun r k e => ?_, fun r k e e' => ?_⟩, r2, h5.thenL r4 (fun x ⟨r, e⟩ => ?_), h6.fr r4 (fun k e ⟨r, e'⟩ => h3 r k e' e), h7⟩, by rw [hst, if_neg h0]⟩
    · have := h5.size
      rcases r3 r k e with h | h
      · exact h2 r k h
      · right; omega
    · rcases r3 r k e with h | h
      · exact h3 r k h e'
      · have := h6.block k e'; omega
    · rcases h2 r x e with h | h
      · exact .inl ⟨r, h⟩
      · exact .inr h
end
/-- What freeAll's outer loop keeps. -/
def R1 (w : World) (bl : Blocks) (tb : Nat) (lv : Value) (ls : List Nat) (n : Nat) (F : Lk.T) (v : Value) (wt : World) (N : Nat) : Prop :=
  ∃ s, N ≤ 1000001 ∧ Lk.SOk n N s ∧ Fa w bl tb lv ls v s wt ∧ Lk.drain N s.1 s.2 = F
end Go.Proofs.Ytpkldcnkadfhgaa
