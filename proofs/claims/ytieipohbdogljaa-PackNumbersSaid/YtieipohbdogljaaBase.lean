/- What the walks use of memory: which blocks may turn; blocks of cells, cell by cell. -/
import Derived.WalkKit
import Derived.WalkLawsBesides
import Derived.WalkSpells
import Derived.BigQuiet
import Derived.Deep.QuietTactic
import Derived.Deep.MidRow
import Derived.Lib.Hide
import Derived.IntWalk
import Derived.Maps.AppendAt
import Derived.RangeFuncOwn
import Derived.Lib.Builder
import Derived.Deep.RegionHeld3
import Derived.Deep.RegionWith
import Derived.Deep.RegionLaw
import Derived.Test.YtieipohbdogljaaProg
namespace Go.Proofs.Ytieipohbdogljaa
set_option linter.unusedVariables false
set_option linter.unusedSimpArgs false
open Go.RowKit

/-- Of what was there, the blocks in S alone have turned. -/
structure Fr (S : Nat → Prop) (W W' : World) : Prop where
  os : W'.os = W.os
  tape : W'.tape = W.tape
  output : W'.output = W.output
  size : W.heap.size ≤ W'.heap.size
  block : ∀ k, k < W.heap.size → ¬ S k → W'.heap[k]? = W.heap[k]?
  oth : ∀ (k : Nat) (o : Obj), W.heap[k]? = some o → o.isCells = false → W'.heap[k]? = some o

def none_ : Nat → Prop := fun _ => False
theorem Fr.refl (S : Nat → Prop) (W : World) : Fr S W W := ⟨rfl, rfl, rfl, Nat.le_refl _, fun _ _ _ => rfl, fun _ _ h _ => h⟩
theorem Fr.thenL {S S' : Nat → Prop} {A B C : World} (h : Fr S A B) (k : Fr S' B C) (hs : ∀ x, S' x → S x ∨ A.heap.size ≤ x) : Fr S A C :=
  ⟨k.os.trans h.os, k.tape.trans h.tape, k.output.trans h.output, Nat.le_trans h.size k.size, fun i hi hn =>
    (k.block i (Nat.lt_of_lt_of_le hi h.size) (fun hm => (hs i hm).elim hn (fun h => by omega))).trans (h.block i hi hn), fun i o e ho => k.oth i o (h.oth i o e ho) ho⟩
theorem Fr.trans {S : Nat → Prop} {A B C : World} (h : Fr S A B) (k : Fr S B C) : Fr S A C := h.thenL k fun _ hx => Or.inl hx
theorem Fr.widen {S S' : Nat → Prop} {A B : World} (h : Fr S A B) (hs : ∀ x, S x → x < A.heap.size → S' x) : Fr S' A B :=
  ⟨h.os, h.tape, h.output, h.size, fun i hi hn => h.block i hi fun hm => hn (hs i hm hi), h.oth⟩
theorem Fr.drew {S : Nat → Prop} {A B : World} (h : Fr S A B) : Fr S A B.drew := ⟨h.os, h.tape, h.output, h.size, h.block, h.oth⟩
theorem Fr.drewN {S : Nat → Prop} {A B : World} (h : Fr S A B) (n : Nat) : Fr S A (B.drewN n) := ⟨h.os, h.tape, h.output, h.size, h.block, h.oth⟩
theorem Fr.of_below {S : Nat → Prop} {A B : World} (h : Below A.heap.size A B) : Fr S A B := ⟨h.os, h.tape, h.output, h.size, fun k hk _ => h.block k hk, fun k o e _ => (h.block k (Array.getElem?_eq_some_iff.1 e).1).trans e⟩
theorem Fr.alloc {S : Nat → Prop} {A B : World} (h : Fr S A B) (o : Obj) : Fr S A (B.alloc o) := h.trans (Fr.of_below ((Below.refl _ _).alloc (Nat.le_refl _) _))
theorem Fr.below_then {S : Nat → Prop} {A B C : World} (h : Fr S A B) (k : Below B.heap.size B C) : Fr S A C := h.trans (Fr.of_below k)
theorem Fr.set {S : Nat → Prop} {A B : World} (h : Fr S A B) {b : Nat} (hb : S b ∨ A.heap.size ≤ b) (o : Nat) (v : Value) : Fr S A (B.setCell ⟨b, o, none⟩ v) :=
  ⟨h.os, h.tape, h.output, by have := h.size; simpa [World.setCell] using this, fun k hk hn =>
    (Below.heap_setCell _ _ _ k (fun e => by
      have e' : k = b := e
      subst e'
      rcases hb with hb | hb
      · exact hn hb
      · omega)).trans (h.block k hk hn), fun k o' e ho => (KeepsOthers.setCell B ⟨b, o, none⟩ v).same k o' (h.oth k o' e ho) ho⟩
theorem Fr.grown {S : Nat → Prop} {A B C : World} {row : Option Nat} (h : Fr S A B) (k : B.grownBy C row) (hs : ∀ x, row = some x → S x ∨ A.heap.size ≤ x) (hc : ∀ x, row = some x → ∃ c t f, B.heap[x]? = some (.cells c t f)) : Fr S A C :=
  ⟨k.os.trans h.os, k.tape.trans h.tape, k.output.trans h.output, Nat.le_trans h.size k.size, fun i hi hn =>
    (k.block i (Nat.lt_of_lt_of_le hi h.size) (fun e => (hs i e.symm).elim hn (fun h => by omega))).trans (h.block i hi hn), fun i o e ho => by
      have h1 := h.oth i o e ho
      refine (k.block i (Array.getElem?_eq_some_iff.1 h1).1 fun er => ?_).trans h1
      obtain ⟨c, t, f, hh⟩ := hc i er.symm
      rw [h1] at hh; cases hh; cases ho⟩
theorem Fr.below {S : Nat → Prop} {A B : World} {n : Nat} (h : Fr S A B) (hL : ∀ x, S x → n ≤ x) (hs : n ≤ A.heap.size) : Below n A B :=
  ⟨h.os, h.tape, h.output, h.size, fun k hk => h.block k (by omega) (fun hm => by have := hL k hm; omega)⟩
theorem Fr.cell {S : Nat → Prop} {A B : World} (h : Fr S A B) {p : Addr} (hp : p.block < A.heap.size) (hn : ¬ S p.block) : B.cell? p = A.cell? p := World.cell?_of_block (w := A) (h.block p.block hp hn)
theorem Fr.frozen {S : Nat → Prop} {A B : World} (h : Fr S A B) {p : Addr} (hp : p.block < A.heap.size) (hn : ¬ S p.block) : B.frozen? p = A.frozen? p := World.frozen?_of_block (w := A) (h.block p.block hp hn)

/-- Block b holds these cells; none is frozen. -/
structure Blk (W : World) (b : Nat) (cs : List Value) : Prop where
  lt : b < W.heap.size
  cell : ∀ (o : Nat) v, cs[o]? = some v → W.cell? ⟨b, o, none⟩ = some v
  fz : ∀ o, W.frozen? ⟨b, o, none⟩ = false
  ob : ∃ c t, W.heap[b]? = some (.cells c t (0, 0))

variable {W W' : World} {b : Nat} {cs : List Value}
theorem Blk.of_eq (h : Blk W b cs) {W' : World} (hl : b < W'.heap.size) (hb : W'.heap[b]? = W.heap[b]?) : Blk W' b cs :=
  ⟨hl, fun o v ho => (World.cell?_of_block (w := W) (a := ⟨b, o, none⟩) hb).trans (h.cell o v ho), fun o => (World.frozen?_of_block (w := W) (a := ⟨b, o, none⟩) hb).trans (h.fz o), by obtain ⟨c, t, e⟩ := h.ob; exact ⟨c, t, hb.trans e⟩⟩
theorem Blk.below (h : Blk W b cs) {m : Nat} (hB : Below m W W') (hb : b < m) : Blk W' b cs := h.of_eq (Nat.lt_of_lt_of_le h.lt hB.size) (hB.block b hb)
theorem Blk.fr (h : Blk W b cs) {S : Nat → Prop} (hB : Fr S W W') (hb : ¬ S b) : Blk W' b cs := h.of_eq (Nat.lt_of_lt_of_le h.lt hB.size) (hB.block b h.lt hb)
theorem Blk.alloc (h : Blk W b cs) (o : Obj) : Blk (W.alloc o) b cs := h.of_eq (by simp; have := h.lt; omega) (Below.heap_alloc _ _ _ h.lt)
theorem Blk.set (h : Blk W b cs) {o : Nat} (ho : o < cs.length) (v : Value) : Blk (W.setCell ⟨b, o, none⟩ v) b (cs.set o v) :=
  ⟨by simpa [World.setCell] using h.lt, fun x u hx => by
    by_cases e : x = o
    · subst e
      have hu : v = u := by simpa [List.getElem?_set, ho] using hx
      subst hu
      exact World.cell?_setCell_same' _ _ _ (by rw [h.cell x _ (List.getElem?_eq_getElem ho)]; rfl)
    · rw [List.getElem?_set_ne (Ne.symm e)] at hx
      rw [← h.cell x u hx]
      exact World.cell?_setCell_other _ _ _ _ (fun e' => e (by injection e' with _ h2 _; exact h2.symm)), fun x => by rw [World.frozen?_setCell]; exact h.fz x, by
      obtain ⟨c, t, e⟩ := h.ob
      refine ⟨c.setIfInBounds o v, t, ?_⟩
      simp [World.setCell, Array.getElem?_modify, e]⟩
theorem Blk.set_other (h : Blk W b cs) {b' o : Nat} (hb : b ≠ b') (v : Value) : Blk (W.setCell ⟨b', o, none⟩ v) b cs :=
  h.of_eq (by simpa [World.setCell] using h.lt) (Below.heap_setCell _ _ _ _ hb)
theorem Blk.grown (h : Blk W b cs) {row : Option Nat} (hg : W.grownBy W' row) (hb : some b ≠ row) : Blk W' b cs := h.of_eq (Nat.lt_of_lt_of_le h.lt hg.size) (hg.block b h.lt hb)
theorem Blk.drew (h : Blk W b cs) : Blk W.drew b cs := ⟨h.lt, h.cell, h.fz, h.ob⟩
theorem Blk.drewN (h : Blk W b cs) (k : Nat) : Blk (W.drewN k) b cs := ⟨h.lt, h.cell, h.fz, h.ob⟩
theorem Blk.new (W : World) (a : Array Value) (t : TypeId) : Blk (W.alloc (.cells a t)) W.heap.size a.toList :=
  ⟨by simp, fun o v ho => by
    rw [World.cell?_alloc_at _ _ _ _ rfl]
    simpa using ho, fun o => World.frozen?_alloc_new _ _ _ o, ⟨_, _, heap_alloc_new W _⟩⟩
theorem one (w : World) (o : Obj) : Below w.heap.size w (w.alloc o) := (Below.refl _ _).alloc (Nat.le_refl _) _
theorem below_drewN {B : Nat} {a w : World} (h : Below B a w) (n : Nat) : Below B a (w.drewN n) := ⟨h.os, h.tape, h.output, h.size, h.block⟩
theorem cell_of {w w' : World} {p : Addr} {v : Value} (h : Below w.heap.size w w') (hc : w.cell? p = some v) : w'.cell? p = some v := (h.cell (World.block_lt_of_cell? w p hc)).trans hc
theorem add_off (g off k : Nat) : (⟨g, off, none⟩ : Addr).add k = ⟨g, off + k, none⟩ := by unfold Addr.add; split <;> simp_all
theorem wf64 {x : Int} (h1 : -9223372036854775808 ≤ x) (h2 : x ≤ 9223372036854775807) : (Lit.int .i64 x).wf = true := by simp [Lit.wf, IntKind.min, IntKind.max, IntKind.signed, IntKind.bits]; omega
theorem info_parts {o : Option TypeInfo} {z : Value} {s b : Nat} (h : o.map (fun i => (i.zero, i.size, i.bytes)) = some (some z, s, b)) : ∃ i, o = some i ∧ i.zero = some z ∧ i.size = s ∧ i.bytes = b := by
  cases o with
  | none => simp at h
  | some i => simp at h; exact ⟨i, rfl, h.1, h.2.1, h.2.2⟩
theorem owns_fr {W W' : World} {b n sz : Nat} {t : TypeId} {v : Value} {xs : List Value} {S : Nat → Prop} (h : W.ownsRow b t sz v n xs) (hf : Fr S W W') (hL : ∀ k, v.ownBlock = some k → ¬ S k) : W'.ownsRow b t sz v n xs := by
  refine ⟨h.1, ?_⟩
  rcases h.2 with h0 | ⟨g, cap, cur, e, hbg, hg, r⟩
  · exact .inl h0
  · exact .inr ⟨g, cap, cur, e, hbg, (hf.block g (Array.getElem?_eq_some_iff.1 hg).1 (hL g (by rw [e]; rfl))).trans hg, r⟩
theorem owns_cells {w : World} {base n sz : Nat} {e : TypeId} {v : Value} {xs : List Value} (h : w.ownsRow base e sz v n xs) : ∀ x, v.ownBlock = some x → ∃ c t f, w.heap[x]? = some (.cells c t f) := by
  intro x hx
  rcases h.2 with ⟨rfl, _⟩ | ⟨g, cap, cur, rfl, _, hg, _⟩
  · simp [Value.ownBlock] at hx
  · simp [Value.ownBlock] at hx
    subst hx
    exact ⟨_, _, _, hg⟩
theorem owns_form {w : World} {base : Nat} {e : TypeId} {v : Value} {n : Nat} {xs : List Value} (h : w.ownsRow base e 1 v n xs) :
    ∃ p cap, v = .slice p n cap ∧ n ≤ cap ∧ cap ≤ maxLen ∧ (0 < n → ∃ g, p = some ⟨g, 0, none⟩ ∧ g < w.heap.size ∧ ∀ (i : Nat) u, xs[i]? = some u → w.cell? ⟨g, i, none⟩ = some u) := by
  have hc := fun g => h.cells (g := g)
  have hl := h.lt
  rcases h.2 with ⟨rfl, rfl⟩ | ⟨g, cap, cur, rfl, hb, hg, h1, h2, h3, h4⟩
  · exact ⟨none, 0, rfl, Nat.le_refl _, Nat.zero_le _, by simp⟩
  · refine ⟨_, cap, rfl, h1, h2, fun _ => ⟨g, rfl, (hl g rfl).2, fun i u hu => ?_⟩⟩
    have := hc g rfl i u hu
    rw [add_off] at this
    simpa using this
/-- A list without its last ones. -/
theorem owns_cut {w : World} {base : Nat} {e : TypeId} {p : Option Addr} {n cap : Nat} {xs : List Value} (h : w.ownsRow base e 1 (.slice p n cap) n xs) {m : Nat} (hm : m ≤ n) : w.ownsRow base e 1 (.slice p m cap) m (xs.take m) := by
  rcases h.2 with ⟨h1, rfl⟩ | ⟨g, cap', cur, h1, hb, hg, h2, h3, h4, h5⟩
  · cases h1
    obtain rfl : m = 0 := by omega
    have : xs = [] := by simpa using h.1
    subst this
    exact ⟨by simp, .inl ⟨rfl, rfl⟩⟩
  · cases h1
    refine ⟨by have := h.1; simp; omega, .inr ⟨g, cap, cur, rfl, hb, hg, by omega, h3, h4, ?_⟩⟩
    rw [← h5, List.take_take]
    congr 1
    omega

end Go.Proofs.Ytieipohbdogljaa
