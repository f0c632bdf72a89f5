/- StealOnce: what is in the lists of the statement. -/
import Derived.Test.YtajccigefoddiaaOncRel
import Derived.Test.YtajccigefoddiaaStkMem
import Derived.Test.YtajccigefoddiaaRestD
import Derived.Test.YtajccigefoddiaaSortS
import Derived.Laws.AppendOwnNone
namespace Go.Proofs.Ytajccigefoddiaa
set_option linter.unusedVariables false
set_option linter.unusedSimpArgs false
open Go.RowKit Go.Shelf
open St
theorem sorted_eq {l r : List Int} (h : l.Perm r) : sorted l = sorted r := by
  have hp : ∀ l : List Int, (sorted l).Pairwise (fun x y => decide (x ≤ y) = true) := fun l => List.pairwise_mergeSort (fun a b c h1 h2 => by simp at *; omega) (fun a b => by simp; omega) l
  exact (((List.mergeSort_perm l _).trans h).trans (List.mergeSort_perm r _).symm).eq_of_pairwise (fun a b _ _ h1 h2 => by simp at h1 h2; omega) (hp l) (hp r)
theorem sorted_length (l : List Int) : (sorted l).length = l.length := by simp [sorted]
def onc (ops : List Int) (lg : List (Nat × Int)) (k : Nat) : Option (Nat × List Int × List Int) := (lg.take k).foldl (oncStep ops) (some (0, [], []))
theorem onc_none (ops : List Int) (lg : List (Nat × Int)) : lg.foldl (oncStep ops) none = none := by
  induction lg with
  | nil => rfl
  | cons e lg ih => exact ih
theorem onc_some {ops : List Int} {lg : List (Nat × Int)} {z : Nat × List Int × List Int} (h : lg.foldl (oncStep ops) (some (0, [], [])) = some z) (k : Nat) : ∃ s, onc ops lg k = some s := by
  cases hs : onc ops lg k with
  | some s => exact ⟨s, rfl⟩
  | none =>
    exfalso
    rw [← List.take_append_drop k lg, List.foldl_append] at h
    unfold onc at hs
    rw [hs, onc_none] at h
    cases h
theorem onc_succ (ops : List Int) (lg : List (Nat × Int)) (k : Nat) (e : Nat × Int) (h : lg[k]? = some e) : onc ops lg (k + 1) = oncStep ops (onc ops lg k) e := by
  unfold onc
  rw [List.take_add_one, h, List.foldl_append]
  rfl
theorem onc_cases {ops : List Int} {a : Nat} {ins outs : List Int} {i : Nat} {y : Int} {z : Nat × List Int × List Int} (nn : ∀ x ∈ ops, 0 ≤ x) (h : oncStep ops (some (a, ins, outs)) (i, y) = some z) :
    (i ≠ 0 ∧ 0 < y ∧ z = (a, ins, outs ++ [y])) ∨ (i ≠ 0 ∧ ¬ 0 < y ∧ z = (a, ins, outs)) ∨ (i = 0 ∧ ∃ op, ops[a]? = some op ∧ ((0 < op ∧ y = op ∧ z = (a + 1, ins ++ [op], outs)) ∨ (0 < op ∧ op ≠ -1 ∧ y = -1 ∧ z = (a + 1, ins, outs)) ∨ (op = 0 ∧ 0 < y ∧ z = (a + 1, ins, outs ++ [y])) ∨ (op = 0 ∧ y = 0 ∧ z = (a + 1, ins, outs)))) := by
  unfold oncStep at h
  simp only at h
  by_cases hi : 0 < i
  · rw [if_pos hi] at h
    by_cases hy : 0 < y
    · rw [if_pos hy] at h; cases h; exact .inl ⟨by omega, hy, rfl⟩
    · rw [if_neg hy] at h; cases h; exact .inr (.inl ⟨by omega, hy, rfl⟩)
  · rw [if_neg hi] at h
    right; right
    refine ⟨by omega, ?_⟩
    cases ho : ops[a]? with
    | none => rw [ho] at h; cases h
    | some op =>
      rw [ho] at h
      simp only at h
      have h0 := nn op (List.mem_of_getElem? ho)
      refine ⟨op, rfl, ?_⟩
      split at h
      · rename_i hc; cases h; exact .inl ⟨hc.1, hc.2, rfl⟩
      · rename_i hc
        split at h
        · cases h
        · rename_i hd
          split at h
          · rename_i he; cases h; exact .inr (.inr (.inl ⟨he.1, he.2, rfl⟩))
          · rename_i he
            cases h
            by_cases hp : 0 < op
            · refine .inr (.inl ⟨hp, by omega, ?_, rfl⟩)
              exact Classical.byContradiction fun hy => hd (.inl ⟨hp, hy⟩)
            · refine .inr (.inr (.inr ⟨by omega, ?_, rfl⟩))
              have h1 : ¬ y < 0 := fun hy => hd (.inr ⟨by omega, hy⟩)
              have h2 : ¬ 0 < y := fun hy => he ⟨by omega, hy⟩
              omega
theorem cell_one_2 (w : World) (o : Obj) (x : Value) (t : TypeId) : ∀ (j : Nat) u, [x][j]? = some u → ((w.alloc o).alloc (.cells #[x] t)).cell? ((⟨w.heap.size + 1, 0, none⟩ : Addr).add j) = some u := by
  have := cell_one_new (w.alloc o) x t
  rwa [World.size_alloc] at this
/-- In the round. -/
def OnRel (W5 : World) (ops : List Int) (lg : List (Nat × Int)) (L : Nat) (vS vR vA vI : Value) (wr : World) : Prop :=
  ∃ (k a : Nat) (S R : List Int), k ≤ L ∧ vI = .int .i64 (k : Int) ∧ vA = .int .i64 (a : Int) ∧ onc ops lg k = some (a, S, R) ∧ (S.length ≤ k ∧ R.length ≤ k ∧ a ≤ ops.length) ∧ Sk W5 S R vS vR wr
theorem OnRel.of {W5 W : World} {ops : List Int} {lg : List (Nat × Int)} {L k a : Nat} {vS vR : Value} {S R : List Int} (h : Sk W5 S R vS vR W) (e : onc ops lg (k + 1) = some (a, S, R)) (hk : k + 1 ≤ L) (hl : S.length ≤ k + 1 ∧ R.length ≤ k + 1 ∧ a ≤ ops.length) {z y : Int} (hz : z = ((k + 1 : Nat) : Int)) (hy : y = (a : Int)) : OnRel W5 ops lg L vS vR (.int .i64 y) (.int .i64 z) W := by
  subst hz hy
  exact ⟨k + 1, a, S, R, hk, rfl, rfl, e, hl, h⟩
section
variable {w2 wr W : World} {S R : List Int} {vS vR : Value}
/-- One list is sorted. -/
theorem Sk.sort (h : Sk w2 S R vS vR wr) (hown : W.ownsRow w2.heap.size 3 1 vS S.length (ints (sorted S))) (hF : Fr (fun x => vS.ownBlock = some x) wr W) : Sk w2 (sorted S) R vS vR W :=
  ⟨by rw [sorted_length]; exact hown, owns_fr h.rr hF (fun k e e' => h.dx k e' e), h.dx, h.bel.trans (hF.below (fun x hx => (h.rs.lt x hx).1) h.bel.size)⟩
/-- Some more. -/
theorem Sk.apps (h : Sk w2 S R vS vR wr) (l : List Int) {v' : Value} {n : Nat} {xs : List Value} (hn : n = S.length + l.length) (hx : xs = ints S ++ ints l) (hown : W.ownsRow w2.heap.size 3 1 v' n xs) (hg : wr.grownBy W vS.ownBlock) {m : Nat} (hat : v'.ownBlock = vS.ownBlock ∨ v'.ownBlock = some m) (hm : wr.heap.size ≤ m) : Sk w2 (S ++ l) R v' vR W := by
  subst hn hx
  have hF : Fr (fun k => vS.ownBlock = some k) wr W := (Fr.refl _ wr).grown hg (fun x hx => .inl hx) (owns_cells h.rs)
  have e : ints S ++ ints l = ints (S ++ l) := by simp [ints]
  rw [e] at hown
  refine ⟨by rw [List.length_append]; exact hown, owns_fr h.rr hF (fun k e e' => h.dx k e' e), fun k e e' => ?_, h.bel.trans (hF.below (fun x hx => (h.rs.lt x hx).1) h.bel.size)⟩
  rcases hat with h1 | h1
  · exact h.dx k (by rw [← h1]; exact e) e'
  · rw [h1] at e
    cases e
    have := (h.rr.lt _ e').2
    omega
end
end Go.Proofs.Ytajccigefoddiaa
