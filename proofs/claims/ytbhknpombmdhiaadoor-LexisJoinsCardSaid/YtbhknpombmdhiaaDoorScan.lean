/- The scanner in memory: what newScanner makes. -/
import Derived.RangeFuncBox
import Derived.Test.YtbhknpombmdhiaaDoorWord
import Derived.Test.YtbhknpombmdhiaaDoorQuote
import Derived.Test.YtbhknpombmdhiaaDoorSign
namespace Go.Proofs.YtbhknpombmdhiaaDoor
open Go.RowKit

/-- A method of the scanner in block S, as a value. -/
abbrev rd (f S : Nat) : Value := .func (.func f) #[.pointer (some ⟨S, 0, none⟩)] #[]

/-- Block S is the scanner of a source, at a position. -/
structure Sc (W : World) (S Bm : Nat) (src : ByteArray) (a : Nat) (st : Bool) : Prop where
  blk : W.heap[S]? = some (.cells #[.string src, .int .i64 a, .bool st, .map (some Bm), .slice (some ⟨S + 1, 0, none⟩) 4 4] 57 (0, 0))
  rdr : W.heap[S + 1]? = some (.cells #[rd 58 S, rd 59 S, rd 60 S, rd 61 S] 80 (0, 0))
  signs : Signs W Bm 21 Lx.signList
  lt : Bm < S

theorem grownBy_set (W : World) (b o : Nat) (v : Value) : W.grownBy (W.setCell ⟨b, o, none⟩ v) (some b) :=
  ⟨rfl, rfl, rfl, (KeepsWalks.setCell W _ v).size, fun k _ hk => Below.heap_setCell _ _ _ k (fun e => hk (by rw [e]))⟩

theorem cell_of {W : World} {b i : Nat} {cs : Array Value} {t : TypeId} {v : Value} (h : W.heap[b]? = some (.cells cs t (0, 0))) (hv : cs[i]? = some v) : W.cell? ⟨b, i, none⟩ = some v := by
  simp [World.cell?, h, hv]
theorem frozen_of {W : World} {b i : Nat} {cs : Array Value} {t : TypeId} (h : W.heap[b]? = some (.cells cs t (0, 0))) : W.frozen? ⟨b, i, none⟩ = false := by
  simp [World.frozen?, h]

variable {W W' : World} {S Bm a : Nat} {src : ByteArray} {st : Bool}
theorem Sc.c0 (h : Sc W S Bm src a st) : W.cell? ⟨S, 0, none⟩ = some (.string src) := cell_of h.blk rfl
theorem Sc.c1 (h : Sc W S Bm src a st) : W.cell? ⟨S, 1, none⟩ = some (.int .i64 a) := cell_of h.blk rfl
theorem Sc.c2 (h : Sc W S Bm src a st) : W.cell? ⟨S, 2, none⟩ = some (.bool st) := cell_of h.blk rfl
theorem Sc.c3 (h : Sc W S Bm src a st) : W.cell? ⟨S, 3, none⟩ = some (.map (some Bm)) := cell_of h.blk rfl
theorem Sc.c4 (h : Sc W S Bm src a st) : W.cell? ⟨S, 4, none⟩ = some (.slice (some ⟨S + 1, 0, none⟩) 4 4) := cell_of h.blk rfl
theorem Sc.fz (h : Sc W S Bm src a st) (i : Nat) : W.frozen? ⟨S, i, none⟩ = false := frozen_of h.blk
theorem Sc.r0 (h : Sc W S Bm src a st) : W.cell? ⟨S + 1, 0, none⟩ = some (rd 58 S) := cell_of h.rdr rfl
theorem Sc.r1 (h : Sc W S Bm src a st) : W.cell? ⟨S + 1, 1, none⟩ = some (rd 59 S) := cell_of h.rdr rfl
theorem Sc.r2 (h : Sc W S Bm src a st) : W.cell? ⟨S + 1, 2, none⟩ = some (rd 60 S) := cell_of h.rdr rfl
theorem Sc.r3 (h : Sc W S Bm src a st) : W.cell? ⟨S + 1, 3, none⟩ = some (rd 61 S) := cell_of h.rdr rfl
theorem Sc.size (h : Sc W S Bm src a st) : S + 1 < W.heap.size := (Array.getElem?_eq_some_iff.1 h.rdr).1
theorem Sc.below {n : Nat} (h : Sc W S Bm src a st) (hb : Below n W W') (hn : S + 1 < n) : Sc W' S Bm src a st :=
  ⟨(hb.block S (by omega)).trans h.blk, (hb.block (S + 1) hn).trans h.rdr, h.signs.below hb (by have := h.lt; omega), h.lt⟩
theorem Sc.set (h : Sc W S Bm src a st) (a' : Nat) : Sc (W.setCell ⟨S, 1, none⟩ (.int .i64 a')) S Bm src a' st := by
  refine ⟨?_, (Below.heap_setCell _ _ _ (S + 1) (by simp)).trans h.rdr, h.signs.kept (grownBy_set W S 1 _) (by have := h.lt; simp; omega), h.lt⟩
  have hlt : S < W.heap.size := by have := h.size; omega
  show (W.heap.modify S _)[S]? = _
  rw [Array.getElem?_eq_getElem (by rw [Array.size_modify]; exact hlt), Array.getElem_modify_self, (Array.getElem?_eq_some_iff.1 h.blk).2]
  rfl
theorem Sc.stop (h : Sc W S Bm src a st) : Sc (W.setCell ⟨S, 2, none⟩ (.bool true)) S Bm src a true := by
  refine ⟨?_, (Below.heap_setCell _ _ _ (S + 1) (by simp)).trans h.rdr, h.signs.kept (grownBy_set W S 2 _) (by have := h.lt; simp; omega), h.lt⟩
  have hlt : S < W.heap.size := by have := h.size; omega
  show (W.heap.modify S _)[S]? = _
  rw [Array.getElem?_eq_getElem (by rw [Array.size_modify]; exact hlt), Array.getElem_modify_self, (Array.getElem?_eq_some_iff.1 h.blk).2]
  rfl

set_option maxRecDepth 100000 in
set_option maxHeartbeats 800000 in
theorem newScanner_any (src : ByteArray) (w : World) :
    Calls Tryd.prog 35 #[.string src] w fun e w' => ∃ S Bm, e = .returned (.pointer (some ⟨S, 0, none⟩)) ∧ Sc w' S Bm src 0 false ∧ w.heap.size ≤ Bm ∧ S + 2 = w'.heap.size ∧ Below w.heap.size w w' := by
  have hmf : ∀ (fn : Fn) (first cap : Array Value) (w : World), (Instr.makeFunc fn first cap).run Tryd.prog w = .ok (.func fn first cap) w := fun _ _ _ _ => rfl
  go_enter Tryd.func35, Tryd.ntmps35
  go_wp2_with (go_at_call 39; refine (signs_any _).mono ?_; rintro e w1 ⟨rfl, hs, hb⟩)
  have hz := hb.size
  have hlt := hs.lt
  go_ret
  refine ⟨w1.heap.size, w.heap.size, rfl, ⟨?_, ?_, (hs.below ((Below.refl w1.heap.size w1).alloc (Nat.le_refl _) _) hlt).below ((Below.refl (w1.heap.size + 1) _).alloc (by simp) _) (by omega), hlt⟩, Nat.le_refl _, by simp, (hb.alloc hz _).alloc (by simp; omega) _⟩
  · rw [Below.heap_alloc _ _ _ (by simp)]; exact World.alloc_heap_new w1 _
  · have := World.alloc_heap_new (w1.alloc (.cells #[.string src, .int .i64 0, .bool false, .map (some w.heap.size), .slice (some ⟨w1.heap.size + 1, 0, none⟩) 4 4] 57)) (.cells #[rd 58 w1.heap.size, rd 59 w1.heap.size, rd 60 w1.heap.size, rd 61 w1.heap.size] 80)
    rw [World.size_alloc] at this
    exact this

end Go.Proofs.YtbhknpombmdhiaaDoor
