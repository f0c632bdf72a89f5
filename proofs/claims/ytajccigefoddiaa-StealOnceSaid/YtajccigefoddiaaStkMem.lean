/- StealStack: two lists of the statement's own. -/
import Derived.Test.YtajccigefoddiaaStkRel
import Derived.Test.YtajccigefoddiaaLawProgress
namespace Go.Proofs.Ytajccigefoddiaa
set_option linter.unusedVariables false
set_option linter.unusedSimpArgs false
open Go.RowKit Go.Shelf
open St
theorem ints_snoc (S : List Int) (x : Int) : ints S ++ [.int .i64 x] = ints (S ++ [x]) := by simp [ints]
structure Sk (w2 : World) (S R : List Int) (vS vR : Value) (wr : World) : Prop where
  rs : wr.ownsRow w2.heap.size 3 1 vS S.length (ints S)
  rr : wr.ownsRow w2.heap.size 3 1 vR R.length (ints R)
  dx : ∀ k, vS.ownBlock = some k → vR.ownBlock ≠ some k
  bel : Below w2.heap.size w2 wr
section
variable {w2 wr W : World} {S R : List Int} {vS vR : Value}
theorem owns_below {W W' : World} {b n sz : Nat} {t : TypeId} {v : Value} {xs : List Value} (h : W.ownsRow b t sz v n xs) (hb : Below W.heap.size W W') : W'.ownsRow b t sz v n xs := owns_fr (S := none_) h (Fr.of_below hb) (fun _ _ h => h)
theorem Sk.swap (h : Sk w2 S R vS vR wr) : Sk w2 R S vR vS wr := ⟨h.rr, h.rs, fun k e e' => h.dx k e' e, h.bel⟩
theorem Sk.below (h : Sk w2 S R vS vR wr) (hb : Below wr.heap.size wr W) : Sk w2 S R vS vR W := ⟨owns_below h.rs hb, owns_below h.rr hb, h.dx, h.bel.trans (hb.mono h.bel.size)⟩
theorem Sk.start (h : Below w2.heap.size w2 wr) : Sk w2 [] [] (.slice none 0 0) (.slice none 0 0) wr := ⟨World.ownsRow_nil _ _ _ _, World.ownsRow_nil _ _ _ _, fun k e => by simp [Value.ownBlock] at e, h⟩
/-- One more. -/
theorem Sk.app (h : Sk w2 S R vS vR wr) (x : Int) {v' : Value} {n : Nat} {xs : List Value} (hn : n = S.length + 1) (hx : xs = ints S ++ [.int .i64 x]) (hown : W.ownsRow w2.heap.size 3 1 v' n xs) (hg : wr.grownBy W vS.ownBlock) {m : Nat} (hat : v'.ownBlock = vS.ownBlock ∨ v'.ownBlock = some m) (hm : wr.heap.size ≤ m) : Sk w2 (S ++ [x]) R v' vR W := by
  subst hn hx
  have hF : Fr (fun k => vS.ownBlock = some k) wr W := (Fr.refl _ wr).grown hg (fun x hx => .inl hx) (owns_cells h.rs)
  rw [ints_snoc] at hown
  refine ⟨by rw [List.length_append]; exact hown, owns_fr h.rr hF (fun k e e' => h.dx k e' e), fun k e e' => ?_, h.bel.trans (hF.below (fun x hx => (h.rs.lt x hx).1) h.bel.size)⟩
  rcases hat with h1 | h1
  · exact h.dx k (by rw [← h1]; exact e) e'
  · rw [h1] at e
    cases e
    have := (h.rr.lt _ e').2
    omega
/-- One less. -/
theorem Sk.pop {y : Int} {g cap : Nat} (h : Sk w2 (S ++ [y]) R (.slice (some ⟨g, 0, none⟩) (S.length + 1) cap) vR wr) : Sk w2 S R (.slice (some ⟨g, 0, none⟩) S.length cap) vR wr := by
  have h0 : wr.ownsRow w2.heap.size 3 1 (.slice (some ⟨g, 0, none⟩) (S.length + 1) cap) (S.length + 1) (ints (S ++ [y])) := by
    have h := h.rs
    rw [List.length_append] at h
    exact h
  have h1 := owns_cut (m := S.length) h0 (by omega)
  refine ⟨?_, h.rr, fun k e => h.dx k e, h.bel⟩
  have e : (ints (S ++ [y])).take S.length = ints S := by rw [← ints_snoc]; exact List.take_left' (by simp [ints])
  rw [e] at h1
  exact h1
end
end Go.Proofs.Ytajccigefoddiaa
