/- TreeFirst: its arrays, and what its calls give. -/
import Derived.Test.YtcegmdlmnibheaaFirRel
import Derived.Test.YtcegmdlmnibheaaPub
import Derived.Test.YtcegmdlmnibheaaFrame
import Derived.Test.YtcegmdlmnibheaaAwake
namespace Go.Proofs.Ytcegmdlmnibheaa
set_option linter.unusedVariables false
set_option linter.unusedSimpArgs false
open Go.RowKit
theorem flat_get {α : Type} {f : α → List Value} {sz : Nat} (hf : ∀ x, (f x).length = sz) : ∀ (l : List α) (j i : Nat) (x : α), l[j]? = some x → i < sz → (l.flatMap f)[j * sz + i]? = (f x)[i]?
  | [], _, _, _, h, _ => by simp at h
  | a :: l, 0, i, x, h, hi => by
    have e : a = x := by simpa using h
    subst e
    rw [List.flatMap_cons, Nat.zero_mul, Nat.zero_add, List.getElem?_append_left (by rw [hf]; exact hi)]
  | a :: l, j + 1, i, x, h, hi => by
    have e : (j + 1) * sz + i = sz + (j * sz + i) := by rw [Nat.add_mul]; omega
    rw [List.flatMap_cons, e, List.getElem?_append_right (by rw [hf]; omega), hf, Nat.add_sub_cancel_left]
    exact flat_get hf l j i x (by simpa using h) hi
theorem row_get {α : Type} {f : α → List Value} {sz : Nat} {t : TypeId} {W : World} {base : Nat} {v : Value} {l : List α} (h : W.ownsRow base t sz v l.length (l.flatMap f)) (hf : ∀ x, (f x).length = sz) {j : Nat} {x : α} (hx : l[j]? = some x) :
    ∃ g c, v = .slice (some ⟨g, 0, none⟩) l.length c ∧ l.length ≤ c ∧ c ≤ maxLen ∧ g < W.heap.size ∧ ∀ i u, (f x)[i]? = some u → W.cell? ⟨g, j * sz + i, none⟩ = some u := by
  rcases h.2 with ⟨_, h0⟩ | ⟨g, cap, cur, e, _, hg, h1, h2, h3, h4⟩
  · have := (List.getElem?_eq_some_iff.1 hx).1; omega
  · refine ⟨g, cap, e, h1, h2, (Array.getElem?_eq_some_iff.1 hg).1, fun i u hu => ?_⟩
    have hi : i < sz := by have := (List.getElem?_eq_some_iff.1 hu).1; rwa [hf] at this
    have hc : (l.flatMap f)[j * sz + i]? = some u := (flat_get hf l j i x hx hi).trans hu
    rw [← h4] at hc
    have hc' : cur[j * sz + i]? = some u := by
      rw [List.getElem?_take] at hc
      split at hc
      · simpa using hc
      · cases hc
    simp [World.cell?, hg, hc']

/-- An array of faults, 201 of them. -/
structure Arr (W : World) (b : Nat) (g : Nat → Tr.F) : Prop where
  lt : b < W.heap.size
  c0 : ∀ n, n ≤ 200 → W.cell? ⟨b, n * 2, none⟩ = some (.int .i64 (g n).k)
  c1 : ∀ n, n ≤ 200 → W.cell? ⟨b, n * 2 + 1, none⟩ = some (.string (g n).s)
  fz : ∀ o, W.frozen? ⟨b, o, none⟩ = false
section
variable {W W' : World} {b : Nat} {g : Nat → Tr.F}
theorem Arr.of_eq (h : Arr W b g) (hl : b < W'.heap.size) (hb : W'.heap[b]? = W.heap[b]?) : Arr W' b g :=
  ⟨hl, fun n hn => (World.cell?_of_block (w := W) (a := ⟨b, n * 2, none⟩) hb).trans (h.c0 n hn), fun n hn => (World.cell?_of_block (w := W) (a := ⟨b, n * 2 + 1, none⟩) hb).trans (h.c1 n hn), fun o => (World.frozen?_of_block (w := W) (a := ⟨b, o, none⟩) hb).trans (h.fz o)⟩
theorem Arr.below (h : Arr W b g) (hB : Below W.heap.size W W') : Arr W' b g := h.of_eq (Nat.lt_of_lt_of_le h.lt hB.size) (hB.block b h.lt)
theorem Arr.fr (h : Arr W b g) {S : Nat → Prop} (hB : Fr S W W') (hb : ¬ S b) : Arr W' b g := h.of_eq (Nat.lt_of_lt_of_le h.lt hB.size) (hB.block b h.lt hb)
theorem Arr.set (h : Arr W b g) {n : Nat} (hn : n ≤ 200) (f : Tr.F) : Arr ((W.setCell ⟨b, n * 2, none⟩ (.int .i64 f.k)).setCell ⟨b, n * 2 + 1, none⟩ (.string f.s)) b (Tr.upd g n f) := by
  refine ⟨by simpa [World.setCell] using h.lt, fun m hm => ?_, fun m hm => ?_, fun o => by rw [World.frozen?_setCell, World.frozen?_setCell]; exact h.fz o⟩
  · have e1 : (⟨b, m * 2, none⟩ : Addr) ≠ ⟨b, n * 2 + 1, none⟩ := fun e => by injection e; omega
    rw [World.cell?_setCell_other _ _ _ _ (Ne.symm e1)]
    by_cases hmn : m = n
    · subst hmn
      simp only [Tr.upd, if_true]
      exact World.cell?_setCell_same' _ _ _ (by rw [h.c0 m hm]; rfl)
    · have e2 : (⟨b, m * 2, none⟩ : Addr) ≠ ⟨b, n * 2, none⟩ := fun e => by injection e; omega
      rw [World.cell?_setCell_other _ _ _ _ (Ne.symm e2), h.c0 m hm]
      simp [Tr.upd, hmn]
  · by_cases hmn : m = n
    · subst hmn
      simp only [Tr.upd, if_true]
      refine World.cell?_setCell_same' _ _ _ ?_
      have e2 : (⟨b, m * 2 + 1, none⟩ : Addr) ≠ ⟨b, m * 2, none⟩ := fun e => by injection e; omega
      rw [World.cell?_setCell_other _ _ _ _ (Ne.symm e2), h.c1 m hm]; rfl
    · have e1 : (⟨b, m * 2 + 1, none⟩ : Addr) ≠ ⟨b, n * 2 + 1, none⟩ := fun e => by injection e; omega
      have e2 : (⟨b, m * 2 + 1, none⟩ : Addr) ≠ ⟨b, n * 2, none⟩ := fun e => by injection e; omega
      rw [World.cell?_setCell_other _ _ _ _ (Ne.symm e1), World.cell?_setCell_other _ _ _ _ (Ne.symm e2), h.c1 m hm]
      simp [Tr.upd, hmn]
def z402 : Array Value := madeCells #[.int .i64 0, .string ⟨#[]⟩] 402
theorem z402_0 {n : Nat} (hn : n ≤ 200) : z402[n * 2]? = some (.int .i64 0) := by
  unfold z402 madeCells
  simp [show n * 2 < 402 by omega]
theorem z402_1 {n : Nat} (hn : n ≤ 200) : z402[n * 2 + 1]? = some (.string ⟨#[]⟩) := by
  unfold z402 madeCells
  simp [show n * 2 + 1 < 402 by omega, show (n * 2 + 1) % 2 = 1 by omega]
theorem Arr.new (W : World) (t : TypeId) : Arr (W.alloc (.cells z402 t)) W.heap.size (fun _ => Tr.f0) := by
  have hB := Blk.new W z402 t
  exact ⟨hB.lt, fun n hn => hB.cell _ _ (by rw [Array.getElem?_toList]; exact z402_0 hn), fun n hn => hB.cell _ _ (by rw [Array.getElem?_toList]; exact z402_1 hn), hB.fz⟩
theorem info37 : (Try.prog.info? 37).map (fun i => (i.zero, i.size, i.bytes)) = some (some (.agg #[.int .i64 0, .string ⟨#[]⟩]), 2, 24) := by kernel_rfl
theorem make29 (w : World) : (Instr.makeSlice 29 (.int .i64 201) (.int .i64 201)).run Try.prog w = .ok (.slice (some ⟨w.heap.size, 0, none⟩) 201 201) (w.alloc (.cells z402 37)) := by
  obtain ⟨i, hi, hz, hs, hb⟩ := info_parts info37
  have h := run_make (P := Try.prog) w 29 37 i _ Try.underlying29 hi hz .i64 .i64 201 201 (by omega) (by omega) (by rw [hb]; omega) (by omega)
  rw [hs] at h
  exact h
end
section
variable {w : World} {own : Own} {tb : Nat} {L : Lay} {t : Tr.T}
/-- What a call of Task gives, found or not. -/
def Tr.was (t : Tr.T) (n : Int) : Tr.Tk := (Tr.tk t n).getD (Tr.tk0 none)
def wasPost (w : World) (x : Tr.Tk) (e : Ending) (w' : World) : Prop := ∃ q cq c, e = .returned (.tuple #[tsV x q cq, .int .i64 c]) ∧ x.op.length ≤ cq ∧ cq ≤ maxLen ∧ LinksRow w w' (.slice q x.op.length cq) x.op
theorem Task_was (h : Rep w own tb L t) (hl : Lim t) (n : Int) : Calls Try.prog 22 #[ptr tb, .int .i64 n] w (wasPost w (Tr.was t n)) := by
  unfold Tr.was
  cases hx : Tr.tk t n with
  | some x =>
    refine (Task_ok h hl hx).mono ?_
    rintro e w' ⟨q, cq, rfl, h1, h2, h3⟩
    exact ⟨q, cq, 0, rfl, h1, h2, h3⟩
  | none =>
    refine (Task_no h hx).mono ?_
    rintro e w' ⟨rfl, hb⟩
    exact ⟨none, 0, 6, rfl, Nat.le_refl _, Nat.zero_le _, World.ownsRow_nil _ _ _ _, hb⟩
theorem was_op (hl : Lim t) (n : Int) : (Tr.was t n).op.length ≤ 1000000 := by
  unfold Tr.was
  cases hx : Tr.tk t n with
  | some x =>
    obtain ⟨i, -, hi⟩ := tk_some hx
    have h1 := hl.op hi
    simp; omega
  | none => simp [Tr.tk0]
theorem lnN_eq (s : Option Nat) : Tr.lnN s = scN s := by cases s <;> rfl
theorem got_2 {o : Op} (hk : o.kd = 2) : Tr.gotSc t o = match Tr.scp t (scN (Tr.was t o.n).sc) with | none => 0 | some y => if y.sup then 0 else scN (Tr.was t o.n).sc := by
  unfold Tr.gotSc Tr.was
  rw [if_pos hk]
  cases hx : Tr.tk t o.n with
  | some x => simp only [Option.getD_some, lnN_eq]; rfl
  | none => simp [Tr.tk0, scN, Tr.scp]
theorem got_3 {o : Op} (hk : o.kd = 3) : Tr.gotSc t o = match (Tr.was t o.n).op.getLast? with | none => 0 | some s => scN s := by
  unfold Tr.gotSc Tr.was
  rw [if_neg (by omega), if_pos hk]
  cases hx : Tr.tk t o.n with
  | some x => simp only [Option.getD_some, lnN_eq]; rfl
  | none => simp [Tr.tk0]
theorem got_6 {o : Op} (hk : o.kd = 6) : Tr.gotSc t o = o.n := by
  unfold Tr.gotSc
  rw [if_neg (by omega), if_neg (by omega), if_pos hk]
theorem got_e {o : Op} (h2 : o.kd ≠ 2) (h3 : o.kd ≠ 3) (h6 : o.kd ≠ 6) : Tr.gotSc t o = 0 := by
  unfold Tr.gotSc
  rw [if_neg h2, if_neg h3, if_neg h6]
/-- The statement's state, but for what is to be shown of it. -/
structure Ob (w w1 : World) (own : Own) (t : Tr.T) (fst blk : Nat → Tr.F) (wr : World) : Prop where
  ow : Ow w own w.heap.size t wr
  nF : own w1.heap.size = none
  nB : own (w1.heap.size + 1) = none
  aF : Arr wr w1.heap.size fst
  aB : Arr wr (w1.heap.size + 1) blk
variable {w1 wr W : World} {fst blk : Nat → Tr.F}
theorem Ob.below (h : Ob w w1 own t fst blk wr) (hb : Below wr.heap.size wr W) : Ob w w1 own t fst blk W := ⟨h.ow.below hb, h.nF, h.nB, h.aF.below hb, h.aB.below hb⟩
theorem Ob.gone (h : Ob w w1 own t fst blk wr) {t' : Tr.T} {es : List Tr.E} {v : Value} (hG : GoneE wr own w.heap.size t' es v W) (hl : Lim t') :
    ∃ own', Ob w w1 own' t' fst blk W ∧ W.ownsRow wr.heap.size 76 5 v es.length (es.flatMap efC) ∧ (∀ k, v.ownBlock = some k → own' k = none) ∧ Fr (fun k => own k ≠ none) wr W := by
  obtain ⟨own', L', h1, h2, h3, h4, h5⟩ := hG
  obtain ⟨own2, h6, h7, h8⟩ : ∃ own2, Ow w own2 w.heap.size t' W ∧ (∀ k, k < wr.heap.size → own2 k = own k) ∧ own2 = own' := by
    refine ⟨own', ⟨⟨L', h1⟩, hl, fun k r e => ?_, h.ow.bel.trans (h3.below (fun x hx => ?_) h.ow.bel.size)⟩, h2, rfl⟩
    · by_cases hkl : k < wr.heap.size
      · rw [h2 k hkl] at e; exact h.ow.ge k r e
      · have := h.ow.bel.size; omega
    · cases e : own x with
      | none => exact absurd e hx
      | some r => exact h.ow.ge x r e
  subst h8
  have hF := h.aF.lt
  have hB := h.aB.lt
  exact ⟨own2, ⟨h6, by rw [h2 _ hF]; exact h.nF, by rw [h2 _ hB]; exact h.nB, h.aF.fr h3 (by simp [h.nF]), h.aB.fr h3 (by simp [h.nB])⟩, h4, h5, h3⟩
end
end Go.Proofs.Ytcegmdlmnibheaa
