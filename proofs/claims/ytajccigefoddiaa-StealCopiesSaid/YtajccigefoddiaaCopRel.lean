/- StealCopies: a race, its copy, and the lists of the statement. -/
import Derived.Test.YtajccigefoddiaaPair
namespace Go.Proofs.Ytajccigefoddiaa
set_option linter.unusedVariables false
set_option linter.unusedSimpArgs false
open Go.RowKit Go.Shelf
open St
theorem info4 : (Try.prog.info? 4).map (fun i => (i.zero, i.size, i.bytes)) = some (some (.bool false), 1, 1) := by kernel_rfl
abbrev bools (l : List Bool) : List Value := l.map Value.bool
theorem bools_snoc (S : List Bool) (x : Bool) : bools S ++ [.bool x] = bools (S ++ [x]) := by simp [bools]
def runB (t : St.T) (l : List Int) : St.T × List Bool := l.foldl (fun s a => ((s.1.step a).1, s.2 ++ [(s.1.step a).2])) (t, [])
theorem runB_succ (t : St.T) (l : List Int) (k : Nat) (x : Int) (h : l[k]? = some x) : runB t (l.take (k + 1)) = (((runB t (l.take k)).1.step x).1, (runB t (l.take k)).2 ++ [((runB t (l.take k)).1.step x).2]) := by
  unfold runB
  rw [List.take_add_one, h, List.foldl_append]
  rfl
theorem runB_len (t : St.T) (l : List Int) : (runB t l).2.length = l.length := by
  have : ∀ (s : St.T × List Bool), (l.foldl (fun s a => ((s.1.step a).1, s.2 ++ [(s.1.step a).2])) s).2.length = s.2.length + l.length := by
    induction l with
    | nil => intro s; rfl
    | cons x l ih => intro s; rw [List.foldl_cons, ih]; simp; omega
  rw [runB, this]; simp
structure Cs (w0 wr : World) (o1 o2 : Own) (rb1 cb1 ab1 cap1 : Nat) (t1 : St.T) (rb2 cb2 ab2 cap2 : Nat) (t2 : St.T) (S R : List Bool) (v1 v2 : Value) (was : List Int) (vw : Value) : Prop where
  pr : Pr w0.heap.size wr o1 o2 rb1 cb1 ab1 cap1 t1 rb2 cb2 ab2 cap2 t2
  bel : Below w0.heap.size w0 wr
  b1 : wr.ownsRow w0.heap.size 4 1 v1 S.length (bools S)
  b2 : wr.ownsRow w0.heap.size 4 1 v2 R.length (bools R)
  ww : wr.ownsRow w0.heap.size 3 1 vw was.length (ints was)
  g1 : ∀ k, v1.ownBlock = some k → o1 k = some .other ∧ o2 k = some .other
  g2 : ∀ k, v2.ownBlock = some k → o1 k = some .other ∧ o2 k = some .other
  gw : ∀ k, vw.ownBlock = some k → o1 k = some .other ∧ o2 k = some .other
  d12 : ∀ k, v1.ownBlock = some k → v2.ownBlock ≠ some k
  d1w : ∀ k, v1.ownBlock = some k → vw.ownBlock ≠ some k
  d2w : ∀ k, v2.ownBlock = some k → vw.ownBlock ≠ some k
def CsX (w0 wr : World) (rb1 cb1 ab1 cap1 : Nat) (t1 : St.T) (rb2 cb2 ab2 cap2 : Nat) (t2 : St.T) (S R : List Bool) (v1 v2 : Value) (was : List Int) (vw : Value) : Prop := ∃ o1 o2, Cs w0 wr o1 o2 rb1 cb1 ab1 cap1 t1 rb2 cb2 ab2 cap2 t2 S R v1 v2 was vw
section
variable {w0 wr W : World} {o1 o2 : Own} {rb1 cb1 ab1 cap1 : Nat} {t1 : St.T} {rb2 cb2 ab2 cap2 : Nat} {t2 : St.T} {S R : List Bool} {v1 v2 : Value} {was : List Int} {vw : Value}
theorem Cs.swap (h : Cs w0 wr o1 o2 rb1 cb1 ab1 cap1 t1 rb2 cb2 ab2 cap2 t2 S R v1 v2 was vw) : Cs w0 wr o2 o1 rb2 cb2 ab2 cap2 t2 rb1 cb1 ab1 cap1 t1 S R v1 v2 was vw :=
  ⟨h.pr.swap, h.bel, h.b1, h.b2, h.ww, fun k e => (h.g1 k e).symm, fun k e => (h.g2 k e).symm, fun k e => (h.gw k e).symm, h.d12, h.d1w, h.d2w⟩
theorem Cs.flip (h : Cs w0 wr o1 o2 rb1 cb1 ab1 cap1 t1 rb2 cb2 ab2 cap2 t2 S R v1 v2 was vw) : Cs w0 wr o1 o2 rb1 cb1 ab1 cap1 t1 rb2 cb2 ab2 cap2 t2 R S v2 v1 was vw :=
  ⟨h.pr, h.bel, h.b2, h.b1, h.ww, h.g2, h.g1, h.gw, fun k e e' => h.d12 k e' e, h.d2w, h.d1w⟩
theorem CsX.swap (h : CsX w0 wr rb1 cb1 ab1 cap1 t1 rb2 cb2 ab2 cap2 t2 S R v1 v2 was vw) : CsX w0 wr rb2 cb2 ab2 cap2 t2 rb1 cb1 ab1 cap1 t1 S R v1 v2 was vw := by
  obtain ⟨o1, o2, h⟩ := h; exact ⟨o2, o1, h.swap⟩
theorem CsX.flip (h : CsX w0 wr rb1 cb1 ab1 cap1 t1 rb2 cb2 ab2 cap2 t2 S R v1 v2 was vw) : CsX w0 wr rb1 cb1 ab1 cap1 t1 rb2 cb2 ab2 cap2 t2 R S v2 v1 was vw := by
  obtain ⟨o1, o2, h⟩ := h; exact ⟨o1, o2, h.flip⟩
/-- What both see as another's turns; the lists stay. -/
theorem Cs.grow (h : Cs w0 wr o1 o2 rb1 cb1 ab1 cap1 t1 rb2 cb2 ab2 cap2 t2 S R v1 v2 was vw) {T : Nat → Prop} (hF : Fr T wr W) (hs : ∀ k, T k → o1 k = some .other ∧ o2 k = some .other ∨ wr.heap.size ≤ k)
    {S' : List Bool} {v1' : Value} (hb : W.ownsRow w0.heap.size 4 1 v1' S'.length (bools S')) (hn : ∀ k, v1'.ownBlock = some k → v1.ownBlock = some k ∨ wr.heap.size ≤ k) (hT2 : ∀ k, v2.ownBlock = some k → ¬ T k) (hTw : ∀ k, vw.ownBlock = some k → ¬ T k) (hB : Below w0.heap.size w0 W) :
    ∃ p1 p2, Cs w0 W p1 p2 rb1 cb1 ab1 cap1 t1 rb2 cb2 ab2 cap2 t2 S' R v1' v2 was vw := by
  obtain ⟨p1, p2, hP, ho, hnw⟩ := h.pr.grow h.bel.size hF hs
  refine ⟨p1, p2, hP, hB, hb, owns_fr h.b2 hF hT2, owns_fr h.ww hF hTw, fun k e => ?_, fun k e => ?_, fun k e => ?_, fun k e e' => ?_, fun k e e' => ?_, h.d2w⟩
  · rcases hn k e with h1 | h1
    · have hl := (h.b1.lt k h1).2
      rw [(ho k hl).1, (ho k hl).2]; exact h.g1 k h1
    · exact hnw k h1 (hb.lt k e).2
  · have hl := (h.b2.lt k e).2
    rw [(ho k hl).1, (ho k hl).2]; exact h.g2 k e
  · have hl := (h.ww.lt k e).2
    rw [(ho k hl).1, (ho k hl).2]; exact h.gw k e
  · rcases hn k e with h1 | h1
    · exact h.d12 k h1 e'
    · have := (h.b2.lt k e').2; omega
  · rcases hn k e with h1 | h1
    · exact h.d1w k h1 e'
    · have := (h.ww.lt k e').2; omega
theorem CsX.below (h : CsX w0 wr rb1 cb1 ab1 cap1 t1 rb2 cb2 ab2 cap2 t2 S R v1 v2 was vw) (hb : Below wr.heap.size wr W) : CsX w0 W rb1 cb1 ab1 cap1 t1 rb2 cb2 ab2 cap2 t2 S R v1 v2 was vw := by
  obtain ⟨o1, o2, h⟩ := h
  obtain ⟨p1, p2, h2⟩ := h.grow (T := none_) (Fr.of_below hb) (fun k hk => hk.elim) (owns_fr (S := none_) h.b1 (Fr.of_below hb) (fun _ _ h => h)) (fun k e => .inl e) (fun _ _ h => h) (fun _ _ h => h) (h.bel.trans (hb.mono h.bel.size))
  exact ⟨p1, p2, h2⟩
/-- One more in the first list. -/
theorem CsX.app (h : CsX w0 wr rb1 cb1 ab1 cap1 t1 rb2 cb2 ab2 cap2 t2 S R v1 v2 was vw) (x : Bool) {v' : Value} {n : Nat} {xs : List Value} (hn : n = S.length + 1) (hx : xs = bools S ++ [.bool x]) (hown : W.ownsRow w0.heap.size 4 1 v' n xs) (hg : wr.grownBy W v1.ownBlock) {m : Nat} (hat : v'.ownBlock = v1.ownBlock ∨ v'.ownBlock = some m) (hm : wr.heap.size ≤ m) :
    CsX w0 W rb1 cb1 ab1 cap1 t1 rb2 cb2 ab2 cap2 t2 (S ++ [x]) R v' v2 was vw := by
  subst hn hx
  obtain ⟨o1, o2, h⟩ := h
  have hF : Fr (fun k => v1.ownBlock = some k) wr W := (Fr.refl _ wr).grown hg (fun x hx => .inl hx) (owns_cells h.b1)
  rw [bools_snoc] at hown
  have hl : S.length + 1 = (S ++ [x]).length := by simp
  rw [hl] at hown
  obtain ⟨p1, p2, h2⟩ := h.grow hF (fun k hk => .inl (h.g1 k hk)) hown (fun k e => by
    rcases hat with h1 | h1
    · exact .inl (by rw [← h1]; exact e)
    · rw [h1] at e; cases e; exact .inr hm) (fun k e e' => h.d12 k e' e) (fun k e e' => h.d1w k e' e) (h.bel.trans (hF.below (fun k hk => (h.b1.lt k hk).1) h.bel.size))
  exact ⟨p1, p2, h2⟩
/-- The first race makes a step. -/
theorem CsX.stepC (h : CsX w0 wr rb1 cb1 ab1 cap1 t1 rb2 cb2 ab2 cap2 t2 S R v1 v2 was vw) (x : Int) : Calls Try.prog 18 #[ptr rb1, .int .i64 x] wr fun e w' => e = .returned (.bool (t1.step x).2) ∧ CsX w0 w' rb1 cb1 ab1 cap1 (t1.step x).1 rb2 cb2 ab2 cap2 t2 S R v1 v2 was vw := by
  obtain ⟨o1, o2, h⟩ := h
  refine (h.pr.stepC x).mono fun e w' hp => ⟨hp.1, ?_⟩
  obtain ⟨p1, p2, hP, ho, hF⟩ := h.pr.step h.bel.size x hp.2
  have hm : ∀ k, o1 k = some .other → ¬ Mine o1 k := fun k e hM => by obtain ⟨r, e2, hr⟩ := hM; rw [e] at e2; cases e2; exact hr rfl
  refine ⟨p1, p2, hP, h.bel.trans (h.pr.bel h.bel.size hF), owns_fr h.b1 hF (fun k e => hm k (h.g1 k e).1), owns_fr h.b2 hF (fun k e => hm k (h.g2 k e).1), owns_fr h.ww hF (fun k e => hm k (h.gw k e).1), fun k e => ?_, fun k e => ?_, fun k e => ?_, h.d12, h.d1w, h.d2w⟩
  · have hl := (h.b1.lt k e).2
    rw [(ho k hl).1, (ho k hl).2]; exact h.g1 k e
  · have hl := (h.b2.lt k e).2
    rw [(ho k hl).1, (ho k hl).2]; exact h.g2 k e
  · have hl := (h.ww.lt k e).2
    rw [(ho k hl).1, (ho k hl).2]; exact h.gw k e
theorem CsX.gotC (h : CsX w0 wr rb1 cb1 ab1 cap1 t1 rb2 cb2 ab2 cap2 t2 S R v1 v2 was vw) (x : Int) : Calls Try.prog 24 #[ptr rb1, .int .i64 x] wr (numsPost wr (t1.gotOf x)) := by
  obtain ⟨o1, o2, h⟩ := h; exact h.pr.gotC x
theorem CsX.restC (h : CsX w0 wr rb1 cb1 ab1 cap1 t1 rb2 cb2 ab2 cap2 t2 S R v1 v2 was vw) : Calls Try.prog 21 #[ptr rb1] wr (numsPost wr t1.d.rest) := by
  obtain ⟨o1, o2, h⟩ := h; exact h.pr.restC
end
end Go.Proofs.Ytajccigefoddiaa
