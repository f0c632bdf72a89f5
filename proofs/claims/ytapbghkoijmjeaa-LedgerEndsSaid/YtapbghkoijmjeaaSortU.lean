/- Sorting a row of numbers. -/
import Derived.Lib.RowBridge
import Derived.Test.YtapbghkoijmjeaaShelfU
namespace Go.Proofs.Ytapbghkoijmjeaa
set_option linter.unusedVariables false
set_option linter.unusedSimpArgs false
open Go.RowKit Go.Shelf Go.Sort
def sorted (l : List Int) : List Int := l.mergeSort fun x y => decide (x ≤ y)
theorem grow_below (w : World) (os : Array Obj) : Below w.heap.size w (Sort.grow w os) :=
  ⟨rfl, rfl, rfl, by simp [Sort.grow], fun k hk => by simp [Sort.grow, Array.getElem?_append, hk]⟩
theorem sort_row (w : World) {b : Nat} {p : Option Addr} {cap : Nat} (l : List Int) (hl : l.length ≤ 1000000) (h : w.ownsRow b 3 1 (.slice p l.length cap) l.length (l.map (Value.int .i64))) :
    Calls Try.prog 25 #[.slice p l.length cap] w fun e w' => e = .returned (.tuple #[]) ∧ w'.ownsRow b 3 1 (.slice p l.length cap) l.length ((sorted l).map (Value.int .i64)) ∧ Fr (fun x => (Value.slice p l.length cap).ownBlock = some x) w w' := by
  rcases List.eq_nil_or_concat l with rfl | ⟨l', a, hc⟩
  · refine (Any.slices_Sort_int_none Try.lays189 p cap w).mono ?_
    rintro e w' ⟨rfl, rfl⟩
    exact ⟨rfl, by simpa [sorted] using h, Fr.refl _ _⟩
  · have hp : ∃ g, p = some ⟨g, 0, none⟩ := by
      rcases h.2 with ⟨h1, h0⟩ | ⟨g, cap', cur, h1, _⟩
      · rw [hc] at h0; simp at h0
      · cases h1; exact ⟨g, rfl⟩
    obtain ⟨g, rfl⟩ := hp
    obtain ⟨hcell, hf⟩ := row_ints h
    have hH : Holds (Value.int .i64) w g 0 l.toArray := by
      have := Lib.holds_of_ints (n := l.length) (Nat.le_refl _) hcell (fun j _ => hf _)
      rwa [List.take_length] at this
    have hlt : g < w.heap.size := (h.lt g rfl).2
    refine (Any.slices_Sort_int Try.lays189 g 0 cap l w hH hlt (by omega)).mono ?_
    rintro e w' ⟨rfl, q, os, rfl⟩
    have e1 : putRow (Value.int .i64) (Sort.ahead w q) g 0 (l.mergeSort fun x y => decide (x ≤ y)).toArray = (w.drewN q).setCells g 0 ((sorted l).map (Value.int .i64)) :=
      Lib.putRow_eq_setCells (Value.int .i64) w g 0 l.toArray (sorted l) q hH (by simp [sorted])
    rw [e1]
    have hr := owns_setCells (vs := (sorted l).map (Value.int .i64)) h (by simp [sorted])
    have hrow : ((w.drewN q).setCells g 0 ((sorted l).map (Value.int .i64))).ownsRow b 3 1 (.slice (some ⟨g, 0, none⟩) l.length cap) l.length ((sorted l).map (Value.int .i64)) :=
      owns_setCells (xs := l.map (Value.int .i64)) h (by simp [sorted])
    have hb := grow_below ((w.drewN q).setCells g 0 ((sorted l).map (Value.int .i64))) os
    refine ⟨rfl, owns_fr hrow (Fr.of_below (S := none_) hb) (fun _ _ h => h), ?_⟩
    have := setCells_fr (b := g) ((sorted l).map (Value.int .i64)) 0 (w.drewN q)
    have h2 : Fr (fun x => x = g) w ((w.drewN q).setCells g 0 ((sorted l).map (Value.int .i64))) := ⟨this.os, this.tape, this.output, this.size, this.block, this.oth⟩
    have h3 := h2.below_then hb
    exact ⟨h3.os, h3.tape, h3.output, h3.size, fun k hk hn => h3.block k hk (fun e => hn (by rw [e]; rfl)), h3.oth⟩
theorem sorted_perm {l r : List Int} (h : l.Perm r) (hr : r.Pairwise (· < ·)) : sorted l = r := by
  have hs : r.Pairwise (fun x y => decide (x ≤ y) = true) := hr.imp fun hlt => by simp; omega
  have e1 : (sorted l).Perm r := (List.mergeSort_perm l _).trans h
  have e2 : (sorted l).Pairwise (fun x y => decide (x ≤ y) = true) := List.pairwise_mergeSort (fun a b c h1 h2 => by simp at *; omega) (fun a b => by simp; omega) l
  exact e1.eq_of_pairwise (fun a b _ _ h1 h2 => by simp at h1 h2; omega) e2 hs
end Go.Proofs.Ytapbghkoijmjeaa
