/- A race that is played: the results in the order of the steps. -/
import Derived.Test.YtajccigefoddiaaMade
namespace Go.Proofs.Ytajccigefoddiaa
set_option linter.unusedVariables false
set_option linter.unusedSimpArgs false
open Go.RowKit Go.Shelf
abbrev enL (e : Nat × Int) : List Value := [natV e.1, .int .i64 e.2]
/-- A step, and what has ended by it. -/
def lgStep (s : St.T × List (Nat × Int)) (x : Int) : St.T × List (Nat × Int) :=
  if 0 ≤ x ∧ x ≤ 8 ∧ (s.1.gotOf x).length < ((s.1.step x).1.gotOf x).length then ((s.1.step x).1, s.2 ++ [(x.toNat, ((s.1.step x).1.gotOf x).getD (((s.1.step x).1.gotOf x).length - 1) 0)])
  else ((s.1.step x).1, s.2)
structure Pl (w wr : World) (own : Own) (rb cb ab cap : Nat) (t : St.T) (log : List (Nat × Int)) (hd : Nat → Nat) (b1 b6 b7 hb : Nat) (ov : Value) : Prop where
  rn : Rn w own rb cb ab cap t wr
  k1 : Blk wr b1 [ptr rb]
  k6 : Blk wr b6 [ov]
  k7 : Blk wr b7 [.slice (some ⟨hb, 0, none⟩) 9 9]
  kh : Blk wr hb ((List.range 9).map fun a => natV (hd a))
  row : wr.ownsRow w.heap.size 45 2 ov log.length (log.flatMap enL)
  o1 : own b1 = some .other
  o6 : own b6 = some .other
  o7 : own b7 = some .other
  oh : own hb = some .other
  oo : ∀ k, ov.ownBlock = some k → own k = some .other ∧ k ≠ b1 ∧ k ≠ b6 ∧ k ≠ b7 ∧ k ≠ hb
  n16 : b1 ≠ b6
  n67 : b6 ≠ b7
  n6h : b6 ≠ hb
  n1h : b1 ≠ hb
  n7h : b7 ≠ hb
  g6 : w.heap.size ≤ b6
  gh : w.heap.size ≤ hb
section
variable {W W' : World} {own : Own} {rb cb ab cap : Nat} {vs : List Av} {t : St.T}
theorem Rep.tagF (h : Rep W own rb cb ab vs cap t) {S : Nat → Prop} (hF : Fr S W W') (hs : ∀ k, S k → own k = some .other ∨ W.heap.size ≤ k) {b : Nat} (h1 : W.heap.size ≤ b) (h2 : b < W'.heap.size) : Rep W' (put own (some b) .other) rb cb ab vs cap t := by
  have h' := h.frO hF hs
  have hk : ∀ k r, own k = some r → put own (some b) .other k = some r := fun k r e => by
    unfold put
    rw [if_neg (fun e2 => by have := h.lt k r e; injection e2 with e2; omega)]
    exact e
  have hn : ∀ k, own k = none → k < W.heap.size → put own (some b) .other k = none ∧ ¬ S k := fun k e hk => by
    refine ⟨?_, fun h2 => by rcases hs k h2 with h3 | h3; rw [e] at h3; cases h3; omega⟩
    unfold put
    rw [if_neg (fun e2 => by injection e2 with e2; omega)]
    exact e
  exact ⟨fun k r e => by
      unfold put at e
      split at e
      · rename_i e2; injection e2 with e2; omega
      · exact h'.lt k r e, hk _ _ h.mr, hk _ _ h.mc, hk _ _ h.ma, h'.dq, h'.blk, h.len, h.n0, h.n9, h.ncap, h.cmax,
    fun i v a e1 e2 => (h.todo i v a e1 e2).fr hF hn, fun i v a e1 e2 => (h.next i v a e1 e2).fr hF hn, h'.got, h.gl, fun i v k e1 e => hk _ _ (h.gown i v k e1 e)⟩
end
section
variable {w wr W w2 w5 : World} {own own' : Own} {rb cb ab cap : Nat} {t t' : St.T} {log : List (Nat × Int)} {hd : Nat → Nat} {b1 b6 b7 hb : Nat} {ov : Value}
theorem Pl.below (h : Pl w wr own rb cb ab cap t log hd b1 b6 b7 hb ov) (hb' : Below wr.heap.size wr W) : Pl w W own rb cb ab cap t log hd b1 b6 b7 hb ov :=
  ⟨h.rn.below hb', h.k1.below hb' h.k1.lt, h.k6.below hb' h.k6.lt, h.k7.below hb' h.k7.lt, h.kh.below hb' h.kh.lt, owns_fr h.row (Fr.of_below hb' : Fr none_ _ _) (fun _ _ h => h), h.o1, h.o6, h.o7, h.oh, h.oo, h.n16, h.n67, h.n6h, h.n1h, h.n7h, h.g6, h.gh⟩
theorem not_mine {k : Nat} (h : own k = some .other) : ¬ Mine own k := fun ⟨r, e, hr⟩ => by rw [h] at e; exact hr (Option.some.inj e).symm
theorem Pl.gone (h : Pl w wr own rb cb ab cap t log hd b1 b6 b7 hb ov) (x : Int) (hG : Gone wr own rb cb ab cap (t.step x).1 W) : ∃ own', Pl w W own' rb cb ab cap (t.step x).1 log hd b1 b6 b7 hb ov := by
  obtain ⟨own', hR, hk, hF⟩ := h.rn.gone x hG
  refine ⟨own', hR, h.k1.fr hF (not_mine h.o1), h.k6.fr hF (not_mine h.o6), h.k7.fr hF (not_mine h.o7), h.kh.fr hF (not_mine h.oh), owns_fr h.row hF (fun k e => not_mine (h.oo k e).1), ?_, ?_, ?_, ?_, fun k e => ?_, h.n16, h.n67, h.n6h, h.n1h, h.n7h, h.g6, h.gh⟩
  · rw [hk _ h.k1.lt]; exact h.o1
  · rw [hk _ h.k6.lt]; exact h.o6
  · rw [hk _ h.k7.lt]; exact h.o7
  · rw [hk _ h.kh.lt]; exact h.oh
  · rw [hk _ (h.row.lt k e).2]; exact h.oo k e
/-- One more result. -/
theorem Pl.grow (h : Pl w wr own rb cb ab cap t log hd b1 b6 b7 hb ov) {o : Obj} {ov' : Value} {e : Nat × Int} (hG : (wr.alloc o).grownBy w5 ov.ownBlock) (hrow : w5.ownsRow w.heap.size 45 2 ov' (log.length + 1) (log.flatMap enL ++ enL e))
    (hat : ov'.ownBlock = ov.ownBlock ∨ ov'.ownBlock = some (wr.alloc o).heap.size) : ∃ own', Pl w (w5.setCell ⟨b6, 0, none⟩ ov') own' rb cb ab cap t (log ++ [e]) hd b1 b6 b7 hb ov' := by
  have hz := h.rn.ow.bel.size
  have hF : Fr (fun k => ov.ownBlock = some k) wr w5 := Fr.grown ((Fr.refl _ wr).alloc o) hG (fun x e => .inl e) (owns_cells (h.row.alloc o))
  obtain ⟨vs, hR⟩ := h.rn.ow.rep
  have hb1 : Below wr.heap.size wr (wr.alloc o) := one _ _
  have nv : ∀ k, ov'.ownBlock = some k → ov.ownBlock = some k ∨ k = wr.heap.size + 1 := fun k e => by
    rcases hat with hat | hat
    · rw [hat] at e; exact .inl e
    · rw [hat] at e; simp at e; exact .inr e.symm
  -- the row's block may be a new one: it is tagged then
  obtain ⟨own', hR5, hk5, hov⟩ : ∃ own', Rep w5 own' rb cb ab vs cap t ∧ (∀ k, k < wr.heap.size → own' k = own k) ∧ (∀ k, ov'.ownBlock = some k → own' k = some .other) ∧ ∀ k r, own' k = some r → own k = some r ∨ wr.heap.size ≤ k := by
    have hR5 : Rep w5 own rb cb ab vs cap t := hR.frO hF fun k hs => .inl (h.oo k hs).1
    by_cases hc : ov'.ownBlock = ov.ownBlock
    · exact ⟨own, hR5, fun _ _ => rfl, fun k e => by rw [hc] at e; exact (h.oo k e).1, fun k r e => .inl e⟩
    · have hc2 : ov'.ownBlock = some (wr.heap.size + 1) := by
        rcases hat with hat | hat
        · exact absurd hat hc
        · rw [hat]; simp
      have hl5 := (hrow.lt _ hc2).2
      have hF0 : Fr (fun k => ov.ownBlock = some k) wr w5 := hF
      refine ⟨put own (some (wr.heap.size + 1)) .other, ?_, fun k hk => ?_, fun k e => ?_, fun k r e => ?_⟩
      · exact (hR.tagF hF0 (fun k hs => .inl (h.oo k hs).1) (by omega) hl5)
      · unfold put; rw [if_neg (fun e => by injection e with e; omega)]
      · rw [hc2] at e; unfold put; rw [if_pos e]
      · unfold put at e
        split at e
        · rename_i e2; injection e2 with e2; right; omega
        · exact .inl e
  obtain ⟨hov, hko⟩ := hov
  have hRS : Rep (w5.setCell ⟨b6, 0, none⟩ ov') own' rb cb ab vs cap t := hR5.frO (frA w5 b6 0 ov') fun k hs => by subst hs; exact .inl (by rw [hk5 _ h.k6.lt]; exact h.o6)
  have hB : Below w.heap.size w (w5.setCell ⟨b6, 0, none⟩ ov') := bSt ((bAl h.rn.ow.bel o).grown hG (by simp; omega) (fun b e => (h.row.lt b e).1)) h.g6 _ _
  have hne : ∀ b, own b = some .other → b < wr.heap.size → ¬ ov.ownBlock = some b → ¬ ov'.ownBlock = some b := fun b _ hl hn e => by
    rcases nv b e with h3 | h3
    · exact hn h3
    · omega
  have hx1 : ¬ ov.ownBlock = some b1 := fun e => (h.oo _ e).2.1 rfl
  have hx6 : ¬ ov.ownBlock = some b6 := fun e => (h.oo _ e).2.2.1 rfl
  have hx7 : ¬ ov.ownBlock = some b7 := fun e => (h.oo _ e).2.2.2.1 rfl
  have hxh : ¬ ov.ownBlock = some hb := fun e => (h.oo _ e).2.2.2.2 rfl
  refine ⟨own', ⟨⟨⟨vs, hRS⟩, fun k r e => ?_, hB⟩, h.rn.inv⟩, (h.k1.fr hF hx1).set_other h.n16 _, (h.k6.fr hF hx6).set (o := 0) (by simp) ov', (h.k7.fr hF hx7).set_other (Ne.symm h.n67) _, (h.kh.fr hF hxh).set_other (Ne.symm h.n6h) _, ?_, ?_, ?_, ?_, ?_, fun k e => ⟨hov k e, ?_⟩, h.n16, h.n67, h.n6h, h.n1h, h.n7h, h.g6, h.gh⟩
  · rcases hko k r e with h3 | h3
    · exact h.rn.ow.ge k r h3
    · omega
  · have e1 : (log ++ [e]).flatMap enL = log.flatMap enL ++ enL e := by simp
    have e2 : (log ++ [e]).length = log.length + 1 := by simp
    rw [e1, e2]
    exact owns_fr hrow (frA w5 b6 0 ov') (fun k e hk => by subst hk; exact hne _ h.o6 h.k6.lt hx6 e)
  · rw [hk5 _ h.k1.lt]; exact h.o1
  · rw [hk5 _ h.k6.lt]; exact h.o6
  · rw [hk5 _ h.k7.lt]; exact h.o7
  · rw [hk5 _ h.kh.lt]; exact h.oh
  · exact ⟨fun e2 => by subst e2; exact hne _ h.o1 h.k1.lt hx1 e, fun e2 => by subst e2; exact hne _ h.o6 h.k6.lt hx6 e, fun e2 => by subst e2; exact hne _ h.o7 h.k7.lt hx7 e, fun e2 => by subst e2; exact hne _ h.oh h.kh.lt hxh e⟩
/-- How many results an actor has had. -/
theorem Pl.had (h : Pl w wr own rb cb ab cap t log hd b1 b6 b7 hb ov) {a : Nat} (ha : a < 9) (n : Nat) : Pl w (wr.setCell ⟨hb, a, none⟩ (natV n)) own rb cb ab cap t log (fun j => if j = a then n else hd j) b1 b6 b7 hb ov := by
  obtain ⟨vs, hR⟩ := h.rn.ow.rep
  have hF := frA wr hb a (natV n)
  have hxh : ¬ ov.ownBlock = some hb := fun e => (h.oo _ e).2.2.2.2 rfl
  refine ⟨⟨⟨⟨vs, hR.frO hF fun k hs => by subst hs; exact .inl h.oh⟩, h.rn.ow.ge, bSt h.rn.ow.bel h.gh _ _⟩, h.rn.inv⟩, h.k1.set_other h.n1h _, h.k6.set_other h.n6h _, h.k7.set_other h.n7h _, ?_, owns_fr h.row hF (fun k e hk => by subst hk; exact hxh e), h.o1, h.o6, h.o7, h.oh, h.oo, h.n16, h.n67, h.n6h, h.n1h, h.n7h, h.g6, h.gh⟩
  have := h.kh.set (o := a) (by simpa using ha) (natV n)
  have e : ((List.range 9).map fun a => natV (hd a)).set a (natV n) = (List.range 9).map fun j => natV (if j = a then n else hd j) := by
    apply List.ext_getElem
    · simp
    · intro j h1 h2
      simp at h1 h2
      by_cases e : a = j
      · subst e; simp
      · rw [List.getElem_set_ne e]; simp [Ne.symm e]
  rwa [e] at this
end
end Go.Proofs.Ytajccigefoddiaa
