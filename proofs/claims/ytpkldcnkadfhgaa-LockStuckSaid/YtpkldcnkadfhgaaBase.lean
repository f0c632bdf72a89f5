/- What the walks use of memory: which blocks may turn; blocks of cells, cell by cell. -/
import Derived.WalkKit
import Derived.WalkLawsBesides
import Derived.WalkSpells
import Derived.BigQuiet
import Derived.Deep.QuietTactic
import Derived.Deep.MidRow
import Derived.Lib.Hide
import Derived.IntWalk
import Derived.Test.YtpkldcnkadfhgaaProg
namespace Go.Proofs.Ytpkldcnkadfhgaa
open Go.RowKit

/-- Of what was there, the blocks in S alone have turned. -/
structure Fr (S : Nat → Prop) (W W' : World) : Prop where
  os : W'.os = W.os
  tape : W'.tape = W.tape
  output : W'.output = W.output
  size : W.heap.size ≤ W'.heap.size
  block : ∀ k, k < W.heap.size → ¬ S k → W'.heap[k]? = W.heap[k]?

def none_ : Nat → Prop := fun _ => False
theorem Fr.refl (S : Nat → Prop) (W : World) : Fr S W W := ⟨rfl, rfl, rfl, Nat.le_refl _, fun _ _ _ => rfl⟩
theorem Fr.thenL {S S' : Nat → Prop} {A B C : World} (h : Fr S A B) (k : Fr S' B C) (hs : ∀ x, S' x → S x ∨ A.heap.size ≤ x) : Fr S A C :=
  ⟨k.os.trans h.os, k.tape.trans h.tape, k.output.trans h.output, Nat.le_trans h.size k.size, fun i hi hn =>
    (k.block i (Nat.lt_of_lt_of_le hi h.size) (fun hm => (hs i hm).elim hn (fun h => by omega))).trans (h.block i hi hn)⟩
theorem Fr.trans {S : Nat → Prop} {A B C : World} (h : Fr S A B) (k : Fr S B C) : Fr S A C := h.thenL k fun _ hx => Or.inl hx
theorem Fr.widen {S S' : Nat → Prop} {A B : World} (h : Fr S A B) (hs : ∀ x, S x → x < A.heap.size → S' x) : Fr S' A B :=
  ⟨h.os, h.tape, h.output, h.size, fun i hi hn => h.block i hi fun hm => hn (hs i hm hi)⟩
theorem Fr.drew {S : Nat → Prop} {A B : World} (h : Fr S A B) : Fr S A B.drew := ⟨h.os, h.tape, h.output, h.size, h.block⟩
theorem Fr.drewN {S : Nat → Prop} {A B : World} (h : Fr S A B) (n : Nat) : Fr S A (B.drewN n) := ⟨h.os, h.tape, h.output, h.size, h.block⟩
theorem Fr.of_below {S : Nat → Prop} {A B : World} (h : Below A.heap.size A B) : Fr S A B := ⟨h.os, h.tape, h.output, h.size, fun k hk _ => h.block k hk⟩
theorem Fr.alloc {S : Nat → Prop} {A B : World} (h : Fr S A B) (o : Obj) : Fr S A (B.alloc o) := h.trans (Fr.of_below ((Below.refl _ _).alloc (Nat.le_refl _) _))
theorem Fr.below_then {S : Nat → Prop} {A B C : World} (h : Fr S A B) (k : Below B.heap.size B C) : Fr S A C := h.trans (Fr.of_below k)
theorem Fr.set {S : Nat → Prop} {A B : World} (h : Fr S A B) {b : Nat} (hb : S b ∨ A.heap.size ≤ b) (o : Nat) (v : Value) : Fr S A (B.setCell ⟨b, o, none⟩ v) :=
  ⟨h.os, h.tape, h.output, by have := h.size; simpa [World.setCell] using this, fun k hk hn =>
    (Below.heap_setCell _ _ _ k (fun e => by
      have e' : k = b := e
      subst e'
      rcases hb with hb | hb
      · exact hn hb
      · omega)).trans (h.block k hk hn)⟩
theorem Fr.grown {S : Nat → Prop} {A B C : World} {row : Option Nat} (h : Fr S A B) (k : B.grownBy C row) (hs : ∀ x, row = some x → S x ∨ A.heap.size ≤ x) : Fr S A C :=
  ⟨k.os.trans h.os, k.tape.trans h.tape, k.output.trans h.output, Nat.le_trans h.size k.size, fun i hi hn =>
    (k.block i (Nat.lt_of_lt_of_le hi h.size) (fun e => (hs i e.symm).elim hn (fun h => by omega))).trans (h.block i hi hn)⟩
theorem Fr.below {S : Nat → Prop} {A B : World} {n : Nat} (h : Fr S A B) (hL : ∀ x, S x → n ≤ x) (hs : n ≤ A.heap.size) : Below n A B :=
  ⟨h.os, h.tape, h.output, h.size, fun k hk => h.block k (by omega) (fun hm => by have := hL k hm; omega)⟩
theorem Fr.cell {S : Nat → Prop} {A B : World} (h : Fr S A B) {p : Addr} (hp : p.block < A.heap.size) (hn : ¬ S p.block) : B.cell? p = A.cell? p := World.cell?_of_block (w := A) (h.block p.block hp hn)
theorem Fr.frozen {S : Nat → Prop} {A B : World} (h : Fr S A B) {p : Addr} (hp : p.block < A.heap.size) (hn : ¬ S p.block) : B.frozen? p = A.frozen? p := World.frozen?_of_block (w := A) (h.block p.block hp hn)

/-- Block b holds n cells, g o at o; none is frozen. -/
structure Blk (W : World) (b n : Nat) (g : Nat → Value) : Prop where
  lt : b < W.heap.size
  cell : ∀ o, o < n → W.cell? ⟨b, o, none⟩ = some (g o)
  fz : ∀ o, W.frozen? ⟨b, o, none⟩ = false

/-- A function turned at one place. -/
def upd (g : Nat → Value) (o : Nat) (v : Value) : Nat → Value := fun x => if x = o then v else g x
theorem upd_same (g : Nat → Value) (o : Nat) (v : Value) : upd g o v o = v := by simp [upd]
theorem upd_other (g : Nat → Value) {o x : Nat} (v : Value) (h : x ≠ o) : upd g o v x = g x := by simp [upd, h]

variable {W W' : World} {b n : Nat} {g : Nat → Value}
theorem Blk.of_eq (h : Blk W b n g) {W' : World} (hl : b < W'.heap.size) (hb : W'.heap[b]? = W.heap[b]?) : Blk W' b n g :=
  ⟨hl, fun o ho => (World.cell?_of_block (w := W) (a := ⟨b, o, none⟩) hb).trans (h.cell o ho), fun o => (World.frozen?_of_block (w := W) (a := ⟨b, o, none⟩) hb).trans (h.fz o)⟩
theorem Blk.below (h : Blk W b n g) {m : Nat} (hB : Below m W W') (hb : b < m) : Blk W' b n g := h.of_eq (Nat.lt_of_lt_of_le h.lt hB.size) (hB.block b hb)
theorem Blk.fr (h : Blk W b n g) {S : Nat → Prop} (hB : Fr S W W') (hb : ¬ S b) : Blk W' b n g := h.of_eq (Nat.lt_of_lt_of_le h.lt hB.size) (hB.block b h.lt hb)
theorem Blk.alloc (h : Blk W b n g) (o : Obj) : Blk (W.alloc o) b n g := h.of_eq (by simp; have := h.lt; omega) (Below.heap_alloc _ _ _ h.lt)
theorem Blk.set (h : Blk W b n g) {o : Nat} (ho : o < n) (v : Value) : Blk (W.setCell ⟨b, o, none⟩ v) b n (upd g o v) :=
  ⟨by simpa [World.setCell] using h.lt, fun x hx => by
    by_cases e : x = o
    · subst e
      rw [upd_same]
      exact World.cell?_setCell_same' _ _ _ (by rw [h.cell x hx]; rfl)
    · rw [upd_other _ _ e, ← h.cell x hx]
      exact World.cell?_setCell_other _ _ _ _ (fun e' => e (by injection e' with _ h2 _; exact h2.symm)), fun x => by rw [World.frozen?_setCell]; exact h.fz x⟩
theorem Blk.set_other (h : Blk W b n g) {b' o : Nat} (hb : b ≠ b') (v : Value) : Blk (W.setCell ⟨b', o, none⟩ v) b n g :=
  h.of_eq (by simpa [World.setCell] using h.lt) (Below.heap_setCell _ _ _ _ hb)
theorem Blk.grown (h : Blk W b n g) {row : Option Nat} (hg : W.grownBy W' row) (hb : some b ≠ row) : Blk W' b n g := h.of_eq (Nat.lt_of_lt_of_le h.lt hg.size) (hg.block b h.lt hb)
theorem Blk.drew (h : Blk W b n g) : Blk W.drew b n g := ⟨h.lt, h.cell, h.fz⟩
theorem Blk.drewN (h : Blk W b n g) (k : Nat) : Blk (W.drewN k) b n g := ⟨h.lt, h.cell, h.fz⟩
theorem Blk.mono (h : Blk W b n g) {m : Nat} (hm : m ≤ n) : Blk W b m g := ⟨h.lt, fun o ho => h.cell o (by omega), h.fz⟩
theorem Blk.ext (h : Blk W b n g) {g' : Nat → Value} (he : ∀ o, o < n → g o = g' o) : Blk W b n g' := ⟨h.lt, fun o ho => (h.cell o ho).trans (by rw [he o ho]), h.fz⟩
theorem Blk.new (W : World) (cs : Array Value) (t : TypeId) : Blk (W.alloc (.cells cs t)) W.heap.size cs.size (fun o => cs[o]?.getD undef) :=
  ⟨by simp, fun o ho => by
    rw [World.cell?_alloc_at _ _ _ _ rfl]
    rw [Array.getElem?_eq_getElem ho]; rfl, fun o => World.frozen?_alloc_new _ _ _ o⟩
end Go.Proofs.Ytpkldcnkadfhgaa
