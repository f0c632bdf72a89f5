/- What New does; a statement's own tree. -/
import Derived.Test.YtcegmdlmnibheaaLimP
import Derived.Test.YtcegmdlmnibheaaGrow
namespace Go.Proofs.Ytcegmdlmnibheaa
set_option linter.unusedVariables false
set_option linter.unusedSimpArgs false
open Go.RowKit

/-- A statement's tree, in blocks that the call has made. -/
structure Ow (w0 : World) (own : Own) (tb : Nat) (t : Tr.T) (wr : World) : Prop where
  rep : ∃ L, Rep wr own tb L t
  lim : Lim t
  ge : ∀ k r, own k = some r → w0.heap.size ≤ k
  bel : Below w0.heap.size w0 wr
section
variable {w0 wr W : World} {own : Own} {tb : Nat} {t t' : Tr.T}
theorem Ow.gone (h : Ow w0 own tb t wr) (hG : Gone wr own tb t' W) (hl : Lim t') : ∃ own', Ow w0 own' tb t' W ∧ (∀ k, k < wr.heap.size → own' k = own k) ∧ Fr (fun k => own k ≠ none) wr W := by
  obtain ⟨own', L', hR, hk, hF⟩ := hG
  have hz := h.bel.size
  refine ⟨own', ⟨⟨L', hR⟩, hl, fun k r e => ?_, h.bel.trans (hF.below (fun x hx => ?_) hz)⟩, hk, hF⟩
  · by_cases hkl : k < wr.heap.size
    · rw [hk k hkl] at e; exact h.ge k r e
    · omega
  · cases e : own x with
    | none => exact absurd e hx
    | some r => exact h.ge x r e
theorem Ow.below (h : Ow w0 own tb t wr) (hb : Below wr.heap.size wr W) : Ow w0 own tb t W := by
  obtain ⟨L, hR⟩ := h.rep
  exact ⟨⟨L, hR.below hb⟩, h.lim, h.ge, h.bel.trans (hb.mono h.bel.size)⟩

def own0 (b : Nat) : Own := fun k => if k = b then some .tree else none
def lay0 : Lay := ⟨.slice none 0 0, .slice none 0 0, fun _ => 0, fun _ => 0, fun _ => .slice none 0 0, fun _ => .slice none 0 0⟩
theorem rep0 (w : World) : Rep (w.alloc (.cells #[.slice none 0 0, .slice none 0 0] 88)) (own0 w.heap.size) w.heap.size lay0 ⟨[], []⟩ :=
  ⟨fun k r e => by unfold own0 at e; split at e <;> simp at e; simp; omega, by simp [own0], Blk.new w #[.slice none 0 0, .slice none 0 0] 88, by simp [lay0, Value.ownBlock], by simp [lay0, Value.ownBlock],
    World.ownsRow_nil _ _ _ _, World.ownsRow_nil _ _ _ _, by simp, by simp, ⟨by simp, by simp, by simp, by simp⟩⟩
theorem ow0 (w : World) : Ow w (own0 w.heap.size) w.heap.size ⟨[], []⟩ (w.alloc (.cells #[.slice none 0 0, .slice none 0 0] 88)) :=
  ⟨⟨lay0, rep0 w⟩, ⟨by simp, by simp, by simp, by simp⟩, fun k r e => by unfold own0 at e; split at e <;> simp at e; omega, one _ _⟩

def newPost (w : World) (n : Nat) (e : Ending) (w' : World) : Prop := e = .returned (.tuple #[ptr w.heap.size, .int .i64 0]) ∧ ∃ own, Ow w own w.heap.size (Tr.new n) w'
theorem new_step {k : Nat} (hk : k < 64) : (Tr.add (Tr.new k) none).1 = Tr.new (k + 1) ∧ (Tr.add (Tr.new k) none).2 = ((k : Int) + 1, 0) := by
  unfold Tr.add
  rw [if_neg (by simp [Tr.new]; omega)]
  simp [Tr.hook, Tr.addT, Tr.new, List.replicate_succ']
set_option maxRecDepth 100000 in
set_option maxHeartbeats 4000000 in
theorem new_ok (w : World) (n : Nat) (h1 : 1 ≤ n) (h2 : n ≤ 64) : Calls Try.prog 11 #[.int .i64 n] w (newPost w n) := by
  unfold newPost
  have H0 := Lib.hid (ow0 w)
  have a1 : ¬ ((n : Int) < 1) := by omega
  have a2 : ¬ ((64 : Int) < (n : Int)) := by omega
  go_enter Try.func11, Try.ntmps11
  go_wp2_with fail
  go_loopw [14] (fun i wr => ∃ k : Nat, k ≤ n ∧ i = .int .i64 k ∧ ∃ own, Ow w own w.heap.size (Tr.new k) wr) (fun i _ => n - (intOf i).toNat)
  case atStart => exact ⟨0, Nat.zero_le _, rfl, _, H0.out⟩
  case round =>
    obtain ⟨k, hk, rfl, own, hO⟩ := hrel
    have HO := Lib.hid hO
    by_cases hlt : k < n
    · obtain ⟨L, hR⟩ := hO.rep
      have A := Lib.hid (add_pub hR hO.lim none (by simp))
      unfold goneII scP at A
      rw [(new_step (k := k) (by omega)).1, (new_step (k := k) (by omega)).2] at A
      clear hO hR
      go_wp2_with fail
      refine A.out.mono ?_
      rintro e w2 ⟨rfl, hG⟩
      obtain ⟨own2, hO2, -, -⟩ := HO.out.gone hG (Lim.new (by omega))
      have HO2 := Lib.hid hO2
      clear hG hO2 A
      go_wp2
      go_roundw
      case rel => exact ⟨k + 1, by omega, by go_num, own2, HO2.out⟩
      case measure => simp [intOf]; omega
    · obtain rfl : k = n := by omega
      clear hO
      go_wp2
      go_ret2
      exact ⟨rfl, own, HO.out⟩
set_option maxRecDepth 100000 in
theorem new_bad (w : World) (n : Int) (h : n < 1 ∨ 64 < n) : Calls Try.prog 11 #[.int .i64 n] w (same w (.tuple #[.pointer none, .int .i64 2])) := by
  unfold same
  by_cases h1 : n < 1
  · go_enter Try.func11, Try.ntmps11
    go_wp2
    go_ret2
    exact ⟨rfl, rfl⟩
  · have h2 : 64 < n := by omega
    go_enter Try.func11, Try.ntmps11
    go_wp2
    go_ret2
    exact ⟨rfl, rfl⟩
end
end Go.Proofs.Ytcegmdlmnibheaa
