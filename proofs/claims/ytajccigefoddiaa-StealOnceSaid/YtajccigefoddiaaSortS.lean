/- Sorting a row of numbers. -/
import Derived.Lib.RowBridge
import Derived.Test.YtajccigefoddiaaShelfS
import Derived.Test.YtajccigefoddiaaLib1
namespace Go.Proofs.Ytajccigefoddiaa
set_option linter.unusedVariables false
set_option linter.unusedSimpArgs false
open Go.RowKit Go.Shelf Go.Sort
theorem setCells_heap {b : Nat} {t : TypeId} : ∀ (vs : List Value) (o : Nat) (w : World) (cur : Array Value), w.heap[b]? = some (.cells cur t (0, 0)) →
    ∃ cur', (w.setCells b o vs).heap[b]? = some (.cells cur' t (0, 0)) ∧ cur'.size = cur.size ∧ ∀ j, j < cur.size → cur'[j]? = if o ≤ j ∧ j < o + vs.length then vs[j - o]? else cur[j]?
  | [], o, w, cur, h => ⟨cur, h, rfl, fun j _ => by rw [if_neg (by rintro ⟨h1, h2⟩; simp at h2; omega)]⟩
  | v :: vs, o, w, cur, h => by
    have h1 : (w.setCell ⟨b, o, none⟩ v).heap[b]? = some (.cells (cur.setIfInBounds o v) t (0, 0)) := by
      simp [World.setCell, Array.getElem?_modify, h]
    obtain ⟨cur', g1, g2, g3⟩ := setCells_heap vs (o + 1) _ _ h1
    refine ⟨cur', g1, by simpa using g2, fun j hj => ?_⟩
    rw [g3 j (by simpa using hj)]
    by_cases hjo : j = o
    · subst hjo
      rw [if_neg (by omega), if_pos (by simp)]
      simp [hj]
    · by_cases hin : o + 1 ≤ j ∧ j < o + 1 + vs.length
      · rw [if_pos hin, if_pos (by simp; omega)]
        have : j - o = (j - (o + 1)) + 1 := by omega
        rw [this]; simp
      · rw [if_neg hin, if_neg (by simp; omega)]
        rw [Array.getElem?_setIfInBounds_ne (Ne.symm hjo)]
theorem setCells_fr {b : Nat} : ∀ (vs : List Value) (o : Nat) (w : World), Fr (fun x => x = b) w (w.setCells b o vs)
  | [], _, w => Fr.refl _ _
  | v :: vs, o, w => (Fr.set (S := fun x => x = b) (Fr.refl _ _) (.inl rfl) o v).trans (setCells_fr vs (o + 1) _)
/-- All of a row is written anew. -/
theorem owns_setCells {w : World} {b n g cap : Nat} {xs vs : List Value} (h : w.ownsRow b 3 1 (.slice (some ⟨g, 0, none⟩) n cap) n xs) (hv : vs.length = n) :
    (w.setCells g 0 vs).ownsRow b 3 1 (.slice (some ⟨g, 0, none⟩) n cap) n vs := by
  rcases h.2 with ⟨h1, _⟩ | ⟨g', cap', cur, h1, h2, hg, h4, h5, h6, h7⟩
  · cases h1
  · cases h1
    obtain ⟨cur', g1, g2, g3⟩ := setCells_heap (b := g) (t := 3) vs 0 w cur hg
    refine ⟨by omega, .inr ⟨g, cap, cur', rfl, h2, g1, h4, h5, by omega, ?_⟩⟩
    apply List.ext_getElem?
    intro j
    rw [List.getElem?_take]
    by_cases hj : j < n
    · rw [if_pos (by omega), Array.getElem?_toList, g3 j (by omega), if_pos ⟨by omega, by omega⟩, Nat.sub_zero]
    · rw [if_neg (by omega)]
      symm
      exact List.getElem?_eq_none (by omega)
def sorted (l : List Int) : List Int := l.mergeSort fun x y => decide (x ≤ y)
theorem grow_below (w : World) (os : Array Obj) : Below w.heap.size w (Sort.grow w os) :=
  ⟨rfl, rfl, rfl, by simp [Sort.grow], fun k hk => by simp [Sort.grow, Array.getElem?_append, hk]⟩
theorem sort_row (w : World) {b : Nat} {p : Option Addr} {cap : Nat} (l : List Int) (hl : l.length ≤ 1000000) (h : w.ownsRow b 3 1 (.slice p l.length cap) l.length (ints l)) :
    Calls Try.prog 22 #[.slice p l.length cap] w fun e w' => e = .returned (.tuple #[]) ∧ w'.ownsRow b 3 1 (.slice p l.length cap) l.length (ints (sorted l)) ∧ Fr (fun x => (Value.slice p l.length cap).ownBlock = some x) w w' := by
  rcases List.eq_nil_or_concat l with rfl | ⟨l', a, hc⟩
  · refine (Any.slices_Sort_int_none Try.lays189 p cap w).mono ?_
    rintro e w' ⟨rfl, rfl⟩
    exact ⟨rfl, by simpa [sorted] using h, Fr.refl _ _⟩
  · have hp : ∃ g, p = some ⟨g, 0, none⟩ := by
      rcases h.2 with ⟨h1, h0⟩ | ⟨g, cap', cur, h1, _⟩
      · rw [hc] at h0; simp at h0
      · cases h1; exact ⟨g, rfl⟩
    obtain ⟨g, rfl⟩ := hp
    obtain ⟨hcell, hf⟩ := row_ints h
    have hH : Holds (Value.int .i64) w g 0 l.toArray := by
      have := Lib.holds_of_ints (n := l.length) (Nat.le_refl _) hcell (fun j _ => hf _)
      rwa [List.take_length] at this
    have hlt : g < w.heap.size := (h.lt g rfl).2
    refine (Any.slices_Sort_int Try.lays189 g 0 cap l w hH hlt (by omega)).mono ?_
    rintro e w' ⟨rfl, q, os, rfl⟩
    have e1 : putRow (Value.int .i64) (Sort.ahead w q) g 0 (l.mergeSort fun x y => decide (x ≤ y)).toArray = (w.drewN q).setCells g 0 (ints (sorted l)) :=
      Lib.putRow_eq_setCells (Value.int .i64) w g 0 l.toArray (sorted l) q hH (by simp [sorted])
    rw [e1]
    have hr := owns_setCells (vs := (sorted l).map (Value.int .i64)) h (by simp [sorted])
    have hrow : ((w.drewN q).setCells g 0 (ints (sorted l))).ownsRow b 3 1 (.slice (some ⟨g, 0, none⟩) l.length cap) l.length (ints (sorted l)) :=
      owns_setCells (xs := ints l) h (by simp [sorted, ints])
    have hb := grow_below ((w.drewN q).setCells g 0 (ints (sorted l))) os
    refine ⟨rfl, owns_fr hrow (Fr.of_below (S := none_) hb) (fun _ _ h => h), ?_⟩
    have := setCells_fr (b := g) (ints (sorted l)) 0 (w.drewN q)
    have h2 : Fr (fun x => x = g) w ((w.drewN q).setCells g 0 (ints (sorted l))) := ⟨this.os, this.tape, this.output, this.size, this.block, this.oth⟩
    have h3 := h2.below_then hb
    exact ⟨h3.os, h3.tape, h3.output, h3.size, fun k hk hn => h3.block k hk (fun e => hn (by rw [e]; rfl)), h3.oth⟩
theorem sorted_perm {l r : List Int} (h : l.Perm r) (hr : r.Pairwise (· < ·)) : sorted l = r := by
  have hs : r.Pairwise (fun x y => decide (x ≤ y) = true) := hr.imp fun hlt => by simp; omega
  have e1 : (sorted l).Perm r := (List.mergeSort_perm l _).trans h
  have e2 : (sorted l).Pairwise (fun x y => decide (x ≤ y) = true) := List.pairwise_mergeSort (fun a b c h1 h2 => by simp at *; omega) (fun a b => by simp; omega) l
  exact e1.eq_of_pairwise (fun a b _ _ h1 h2 => by simp at h1 h2; omega) e2 hs
end Go.Proofs.Ytajccigefoddiaa
