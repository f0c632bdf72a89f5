/- LockOrder: the table and two lists of parties. -/
import Derived.Test.YtpkldcnkadfhgaaEqual
namespace Go.Proofs.Ytpkldcnkadfhgaa
open Go.RowKit

/-- The table and the lists lie apart. -/
structure Ox (w0 : World) (bl : Blocks) (tb : Nat) (t : Lk.T) (vA : Value) (A : List Int) (vG : Value) (G : List Int) (wr : World) : Prop where
  om : Om w0 bl tb t wr
  la : Line wr vA A
  lg : Line wr vG G
  da : ∀ k, vA.ownBlock = some k → ¬ Fp bl k ∧ w0.heap.size ≤ k
  dg : ∀ k, vG.ownBlock = some k → ¬ Fp bl k ∧ w0.heap.size ≤ k
  dx : ∀ k, vA.ownBlock = some k → vG.ownBlock ≠ some k

section
variable {w0 : World} {bl : Blocks} {tb : Nat} {t : Lk.T} {vA vG : Value} {A G : List Int} {wr W : World}
theorem Ox.gone (h : Ox w0 bl tb t vA A vG G wr) {t' : Lk.T} (hG : Gone wr bl tb t' W) : ∃ bl', Ox w0 bl' tb t' vA A vG G W := by
  obtain ⟨bl', h1, h2, h3⟩ := h.om.gone hG
  have ap : ∀ (v : Value) (l : List Int), Line wr v l → (∀ k, v.ownBlock = some k → ¬ Fp bl k ∧ w0.heap.size ≤ k) → ∀ k, v.ownBlock = some k → ¬ Fp bl' k ∧ w0.heap.size ≤ k := fun v l hl hd k e => by
    refine ⟨fun ⟨r, er⟩ => ?_, (hd k e).2⟩
    rcases h2 r k er with h | h
    · exact (hd k e).1 ⟨r, h⟩
    · have := hl.block k e; omega
  exact ⟨bl', h1, h.la.fr h3 fun k e => (h.da k e).1, h.lg.fr h3 fun k e => (h.dg k e).1, ap vA A h.la h.da, ap vG G h.lg h.dg, h.dx⟩
theorem Ox.below (h : Ox w0 bl tb t vA A vG G wr) (hb : Below wr.heap.size wr W) : Ox w0 bl tb t vA A vG G W :=
  ⟨h.om.below hb, h.la.below hb, h.lg.below hb, h.da, h.dg, h.dx⟩
theorem Ox.swap (h : Ox w0 bl tb t vA A vG G wr) : Ox w0 bl tb t vG G vA A wr := ⟨h.om, h.lg, h.la, h.dg, h.da, fun k e e' => h.dx k e' e⟩
/-- One more. -/
theorem Ox.add (h : Ox w0 bl tb t vA A vG G wr) {v' : Value} {A' : List Int} (hL : Line W v' A') (hg : wr.grownBy W vA.ownBlock) (hat : v'.ownBlock = vA.ownBlock ∨ v'.ownBlock = some wr.heap.size) : Ox w0 bl tb t v' A' vG G W := by
  have hF : Fr (fun x => vA.ownBlock = some x) wr W := Fr.grown (Fr.refl _ _) hg fun x e => .inl e
  have hz := h.om.bel.size
  refine ⟨⟨h.om.tab.fr hF fun r k e e' => (h.da k e').1 ⟨r, e⟩, h.om.ge, h.om.bel.trans (hF.below (fun x e => (h.da x e).2) hz)⟩, hL, h.lg.fr hF fun k e e' => h.dx k e' e, fun k e => ?_, h.dg, fun k e e' => ?_⟩
  · rcases hat with h1 | h1
    · exact h.da k (h1 ▸ e)
    · rw [h1] at e; cases e
      refine ⟨fun ⟨r, er⟩ => ?_, hz⟩
      have := h.om.tab.lt er; omega
  · rcases hat with h1 | h1
    · exact h.dx k (h1 ▸ e) e'
    · rw [h1] at e; cases e
      have := h.lg.block _ e'; omega
end

/-- What the loop keeps. -/
def OrdIn (w0 : World) (tb : Nat) (i : Nat) (vA vG : Value) (wr : World) : Prop :=
  ∃ bl l ws A G, Ox w0 bl tb ⟨[l], ws⟩ vA A vG G wr ∧ A = G ++ l.wait ∧ A.length ≤ i
theorem OrdIn.lens {w0 wr : World} {tb i : Nat} {vA vG : Value} (h : OrdIn w0 tb i vA vG wr) : True := trivial

theorem gone_cell {w W : World} {bl : Blocks} {tb : Nat} {t : Lk.T} (h : Gone w bl tb t W) {b o : Nat} {v : Value} (hn : ¬ Fp bl b) (hc : w.cell? ⟨b, o, none⟩ = some v) : W.cell? ⟨b, o, none⟩ = some v := by
  obtain ⟨_, _, _, hF⟩ := h
  exact (hF.cell (p := ⟨b, o, none⟩) (World.block_lt_of_cell? w _ hc) hn).trans hc
theorem gone_size {w W : World} {bl : Blocks} {tb : Nat} {t : Lk.T} (h : Gone w bl tb t W) : w.heap.size ≤ W.heap.size := by
  obtain ⟨_, _, _, hF⟩ := h
  exact hF.size

/-- Hold on the one lock. -/
def ordHold (w0 : World) (bl0 : Blocks) (tb : Nat) (vA vG : Value) (A G : List Int) (p : Int) (w : World) (e : Ending) (W : World) : Prop :=
  (∀ b o v, ¬ Fp bl0 b → w.cell? ⟨b, o, none⟩ = some v → W.cell? ⟨b, o, none⟩ = some v) ∧ (w.heap.size ≤ W.heap.size) ∧ (
  (∃ c, c ≠ 0 ∧ e = .returned (.tuple #[.bool false, .int .i64 c]) ∧ ∃ bl l ws, Ox w0 bl tb ⟨[l], ws⟩ vA A vG G W ∧ A = G ++ l.wait) ∨
  (e = .returned (.tuple #[.bool true, .int .i64 0]) ∧ ∃ bl l ws, Ox w0 bl tb ⟨[l], ws⟩ vA A vG G W ∧ A ++ [p] = (G ++ [p]) ++ l.wait) ∨
  (e = .returned (.tuple #[.bool false, .int .i64 0]) ∧ ∃ bl l ws, Ox w0 bl tb ⟨[l], ws⟩ vA A vG G W ∧ A ++ [p] = G ++ l.wait))
theorem ordHold_any (w0 : World) (bl : Blocks) (tb : Nat) (l : Lk.L) (ws : Lk.KV) (vA vG : Value) (A G : List Int) (p : Int) (w : World) (h : Ox w0 bl tb ⟨[l], ws⟩ vA A vG G w) (hA : A = G ++ l.wait) (hpw : (Lit.int .i64 p).wf = true) :
    Calls Try.prog 15 #[.pointer (some ⟨tb, 0, none⟩), .int .i64 1, .int .i64 p] w (ordHold w0 bl tb vA vG A G p w) := by
  refine (hold_any bl tb ⟨[l], ws⟩ 1 p w h.om.tab hpw).mono fun e W hp => ?_
  unfold holdPost at hp
  split at hp
  · rename_i hc
    exact ⟨fun _ _ _ _ h => cell_of hp.2 h, hp.2.size, .inl ⟨_, hc, hp.1, bl, l, ws, h.below hp.2, hA⟩⟩
  · split at hp
    · exact ⟨fun _ _ _ _ h => cell_of hp.2 h, hp.2.size, .inl ⟨21, by decide, hp.1, bl, l, ws, h.below hp.2, hA⟩⟩
    · obtain ⟨i, l', hi, hl, -, he, hG⟩ := hp
      obtain rfl := one_i hi
      obtain rfl : l = l' := by simpa using hl
      unfold Lk.hold at he hG
      split at he
      · rename_i hw
        rw [if_pos hw] at hG
        obtain ⟨bl', hO⟩ := h.gone hG
        refine ⟨fun b o v hn hc => gone_cell hG hn hc, gone_size hG, .inr (.inl ⟨he, bl', _, _, hO, ?_⟩)⟩
        rw [hA, hw.1]; simp
      · rename_i hw
        rw [if_neg hw] at hG
        obtain ⟨bl', hO⟩ := h.gone hG
        refine ⟨fun b o v hn hc => gone_cell hG hn hc, gone_size hG, .inr (.inr ⟨he, bl', _, _, hO, ?_⟩)⟩
        rw [hA]; simp
/-- Free on the one lock. -/
def ordFree (w0 : World) (tb : Nat) (vA vG : Value) (A G : List Int) (e : Ending) (W : World) : Prop :=
  (∃ c, c ≠ 0 ∧ e = .returned (.tuple #[.int .i64 0, .int .i64 c]) ∧ ∃ bl l ws, Ox w0 bl tb ⟨[l], ws⟩ vA A vG G W ∧ A = G ++ l.wait) ∨
  (e = .returned (.tuple #[.int .i64 0, .int .i64 0]) ∧ ∃ bl l ws, Ox w0 bl tb ⟨[l], ws⟩ vA A vG G W ∧ A = G ++ l.wait) ∨
  (∃ q, 0 < q ∧ e = .returned (.tuple #[.int .i64 q, .int .i64 0]) ∧ ∃ bl l ws, Ox w0 bl tb ⟨[l], ws⟩ vA A vG G W ∧ A = (G ++ [q]) ++ l.wait)
theorem ordFree_any (w0 : World) (bl : Blocks) (tb : Nat) (l : Lk.L) (ws : Lk.KV) (vA vG : Value) (A G : List Int) (p : Int) (w : World) (h : Ox w0 bl tb ⟨[l], ws⟩ vA A vG G w) (hA : A = G ++ l.wait) :
    Calls Try.prog 16 #[.pointer (some ⟨tb, 0, none⟩), .int .i64 1, .int .i64 p] w (ordFree w0 tb vA vG A G) := by
  refine (free_any bl tb ⟨[l], ws⟩ 1 p w h.om.tab).mono fun e W hp => ?_
  unfold freePost at hp
  split at hp
  · rename_i hc
    exact .inl ⟨_, hc, hp.1, bl, l, ws, h.below hp.2, hA⟩
  · obtain ⟨i, l', hi, hl, -, hq⟩ := hp
    obtain rfl := one_i hi
    obtain rfl : l = l' := by simpa using hl
    rcases hq with ⟨-, he, hb⟩ | ⟨h0, he, hG⟩
    · exact .inl ⟨6, by decide, he, bl, l, ws, h.below hb, hA⟩
    · have hps := (h.om.tab.ok.ok l (by simp)).ps
      obtain ⟨bl', hO⟩ := h.gone hG
      unfold Lk.free at hO
      cases hw : l.wait with
      | nil =>
        have ef : Lk.freed l p = ({ l with free := l.free + 1, held := Lk.less l.held p }, 0) := by unfold Lk.freed; rw [hw]
        rw [ef] at he hO
        exact .inr (.inl ⟨he, bl', _, _, hO, by rw [hA, hw]⟩)
      | cons q r =>
        have ef : Lk.freed l p = ({ l with held := Lk.kput q (Lk.kget (Lk.less l.held p) q + 1) (Lk.less l.held p), wait := r }, q) := by unfold Lk.freed; rw [hw]
        rw [ef] at he hO
        have hq := hps q (by rw [hw]; simp)
        unfold Lk.isP at hq
        exact .inr (.inr ⟨q, by omega, he, bl', _, _, hO, by rw [hA, hw]; simp⟩)
end Go.Proofs.Ytpkldcnkadfhgaa
