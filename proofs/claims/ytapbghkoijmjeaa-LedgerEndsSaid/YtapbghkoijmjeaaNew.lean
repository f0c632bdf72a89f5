/- What New does; a statement's own ledger. -/
import Derived.Test.YtapbghkoijmjeaaEnd
namespace Go.Proofs.Ytapbghkoijmjeaa
set_option linter.unusedVariables false
set_option linter.unusedSimpArgs false
open Go.RowKit Go.Shelf
/-- A statement's ledger, in blocks that the call has made. -/
structure Ow (w0 : World) (own : Own) (lb : Nat) (t : Ld.T) (wr : World) : Prop where
  rep : ∃ L, Rep wr own lb L t
  ok : Ld.Ok t
  ge : ∀ k r, own k = some r → w0.heap.size ≤ k
  bel : Below w0.heap.size w0 wr
section
variable {w0 wr W : World} {own : Own} {lb : Nat} {t t' : Ld.T}
theorem Ow.gone (h : Ow w0 own lb t wr) (hG : Gone wr own lb t' W) (hl : Ld.Ok t') : ∃ own', Ow w0 own' lb t' W ∧ (∀ k, k < wr.heap.size → own' k = own k) ∧ Fr (fun k => own k ≠ none) wr W := by
  obtain ⟨own', L', hR, hk, hF⟩ := hG
  have hz := h.bel.size
  refine ⟨own', ⟨⟨L', hR⟩, hl, fun k r e => ?_, h.bel.trans (hF.below (fun x hx => ?_) hz)⟩, hk, hF⟩
  · by_cases hkl : k < wr.heap.size
    · rw [hk k hkl] at e; exact h.ge k r e
    · omega
  · cases e : own x with
    | none => exact absurd e hx
    | some r => exact h.ge x r e
theorem Ow.below (h : Ow w0 own lb t wr) (hb : Below wr.heap.size wr W) : Ow w0 own lb t W := by
  obtain ⟨L, hR⟩ := h.rep
  exact ⟨⟨L, hR.below hb⟩, h.ok, h.ge, h.bel.trans (hb.mono h.bel.size)⟩
theorem Ow.drewN (h : Ow w0 own lb t wr) (n : Nat) : Ow w0 own lb t (wr.drewN n) := h.below (below_drewN (Below.refl _ _) n)
def own0 (b : Nat) : Own := fun k => if k = b then some .led else none
def lay0 : Lay := ⟨.slice none 0 0, fun _ => .slice none 0 0⟩
def zeros : List Value := .int .i64 0 :: List.replicate 66 (.slice none 0 0)
theorem zeros_eq : ldC lay0 Ld.new = zeros := by rfl
theorem rep0 (w : World) (a : Array Value) (ha : a.toList = zeros) : Rep (w.alloc (.cells a 63)) (own0 w.heap.size) w.heap.size lay0 Ld.new :=
  ⟨fun k r e => by unfold own0 at e; split at e <;> simp at e; simp; omega, by simp [own0], by have := Blk.new w a 63; rw [ha] at this; rw [zeros_eq]; exact this, by simp [lay0, Value.ownBlock],
    World.ownsRow_nil _ _ _ _, by simp [lay0, Value.ownBlock], fun i _ => World.ownsRow_nil _ _ _ _⟩
theorem ok0 : Ld.Ok Ld.new := ⟨by simp [Ld.new], by simp [Ld.new], by simp [Ld.new], by simp [Ld.new]⟩
theorem ow0 (w : World) (a : Array Value) (ha : a.toList = zeros) : Ow w (own0 w.heap.size) w.heap.size Ld.new (w.alloc (.cells a 63)) :=
  ⟨⟨lay0, rep0 w a ha⟩, ok0, fun k r e => by unfold own0 at e; split at e <;> simp at e; omega, one _ _⟩
def newPost (w : World) (e : Ending) (w' : World) : Prop := e = .returned (ptr w.heap.size) ∧ Ow w (own0 w.heap.size) w.heap.size Ld.new w'
set_option maxRecDepth 100000 in
set_option maxHeartbeats 4000000 in
theorem new_any (w : World) : Calls Try.prog 11 #[] w (newPost w) := by
  unfold newPost
  have H := Lib.hid (ow0 w)
  go_enter Try.func11, Try.ntmps11
  go_wp2
  go_ret
  exact ⟨rfl, H.out _ rfl⟩
end
end Go.Proofs.Ytapbghkoijmjeaa
