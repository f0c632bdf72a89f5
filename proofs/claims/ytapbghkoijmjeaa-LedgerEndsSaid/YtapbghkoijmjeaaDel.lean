/- slices.Delete at one place of a list of positions. -/
import Derived.Test.YtapbghkoijmjeaaHeld
import Derived.Test.YtapbghkoijmjeaaShelf
namespace Go.Proofs.Ytapbghkoijmjeaa
set_option linter.unusedVariables false
set_option linter.unusedSimpArgs false
open Go.RowKit Go.Shelf
theorem setCells_heap {b : Nat} {t : TypeId} : ∀ (vs : List Value) (o : Nat) (w : World) (cur : Array Value), w.heap[b]? = some (.cells cur t (0, 0)) →
    ∃ cur', (w.setCells b o vs).heap[b]? = some (.cells cur' t (0, 0)) ∧ cur'.size = cur.size ∧ ∀ j, j < cur.size → cur'[j]? = if o ≤ j ∧ j < o + vs.length then vs[j - o]? else cur[j]?
  | [], o, w, cur, h => ⟨cur, h, rfl, fun j _ => by rw [if_neg (by rintro ⟨h1, h2⟩; simp at h2; omega)]⟩
  | v :: vs, o, w, cur, h => by
    have h1 : (w.setCell ⟨b, o, none⟩ v).heap[b]? = some (.cells (cur.setIfInBounds o v) t (0, 0)) := by
      simp [World.setCell, Array.getElem?_modify, h]
    obtain ⟨cur', g1, g2, g3⟩ := setCells_heap vs (o + 1) _ _ h1
    refine ⟨cur', g1, by simpa using g2, fun j hj => ?_⟩
    rw [g3 j (by simpa using hj)]
    by_cases hjo : j = o
    · subst hjo
      rw [if_neg (by omega), if_pos (by simp)]
      simp [hj]
    · by_cases hin : o + 1 ≤ j ∧ j < o + 1 + vs.length
      · rw [if_pos hin, if_pos (by simp; omega)]
        have : j - o = (j - (o + 1)) + 1 := by omega
        rw [this]; simp
      · rw [if_neg hin, if_neg (by simp; omega)]
        rw [Array.getElem?_setIfInBounds_ne (Ne.symm hjo)]
theorem setCells_fr {b : Nat} : ∀ (vs : List Value) (o : Nat) (w : World), Fr (fun x => x = b) w (w.setCells b o vs)
  | [], _, w => Fr.refl _ _
  | v :: vs, o, w => (Fr.set (S := fun x => x = b) (Fr.refl _ _) (.inl rfl) o v).trans (setCells_fr vs (o + 1) _)
theorem natI (l : List Nat) : l.map natV = (ints l).map (Value.int .i64) := by simp [ints]
theorem ints_erase : ∀ (l : List Nat) (i : Nat), (ints l).eraseIdx i = ints (l.eraseIdx i)
  | [], _ => rfl
  | _ :: _, 0 => rfl
  | a :: l, i + 1 => by
    have := ints_erase l i
    simp only [ints, List.map_cons, List.eraseIdx_cons_succ] at this ⊢
    rw [this]
theorem delete_row (w : World) {g cap : Nat} (l : List Nat) (h : w.ownsRow 0 3 1 (.slice (some ⟨g, 0, none⟩) l.length cap) l.length (l.map natV)) (i : Nat) (hi : i < l.length) :
    Calls Try.prog 61 #[.slice (some ⟨g, 0, none⟩) l.length cap, .int .i64 i, .int .i64 (i + 1 : Nat)] w fun e w' =>
      e = .returned (.slice (some ⟨g, 0, none⟩) (l.length - 1) cap) ∧ w'.ownsRow 0 3 1 (.slice (some ⟨g, 0, none⟩) (l.length - 1) cap) (l.length - 1) ((l.eraseIdx i).map natV) ∧ Fr (fun x => x = g) w w' := by
  rcases h.2 with ⟨h1, _⟩ | ⟨g', cap', cur, h1, h2, hg, h4, h5, h6, h7⟩
  · cases h1
  cases h1
  have hmx : maxLen ≤ 9223372036854775807 := by unfold maxLen; omega
  have hcell : ∀ j, j < (ints l).length → w.cell? ⟨g, 0 + j, none⟩ = some (.int .i64 ((ints l).getD j 0)) := fun j hj => by
    have hj' : j < l.length := by simpa [ints] using hj
    have := h.cells (g := g) rfl j (natV (l[j]'hj')) (by rw [List.getElem?_map, List.getElem?_eq_getElem hj']; rfl)
    rw [add_off] at this
    rw [this]
    simp [ints, List.getD_eq_getElem?_getD, hj']
  have hd := Any.slices_Delete_int_cells Try.laysNm223 g 0 l.length cap i (i + 1) (ints l) w (by simp [ints]) h4 (by omega) (by omega) (by omega) hcell (fun j _ => by simp [World.frozen?, hg])
  refine hd.mono ?_
  rintro e w' ⟨rfl, q, rfl⟩
  have hl : (ints l).take l.length = ints l := by rw [List.take_of_length_le]; simp [ints]
  rw [hl]
  have he : (ints l).take i ++ (ints l).drop (i + 1) = ints (l.eraseIdx i) := by
    rw [← List.eraseIdx_eq_take_drop_succ]
    exact ints_erase l i
  rw [he]
  have hli : (ints (l.eraseIdx i)).length = l.length - 1 := by simp [ints, List.length_eraseIdx, hi]
  obtain ⟨cur', g1, g2, g3⟩ := setCells_heap (b := g) (t := 3) ((ints (l.eraseIdx i) ++ List.replicate (i + 1 - i) 0).map (Value.int .i64)) 0 (w.drewN q) cur hg
  refine ⟨by rw [show i + 1 - i = 1 by omega], ⟨by simp [List.length_eraseIdx, hi], .inr ⟨g, cap, cur', rfl, Nat.zero_le _, g1, by omega, h5, by omega, ?_⟩⟩, ?_⟩
  · apply List.ext_getElem?
    intro j
    rw [List.getElem?_take]
    by_cases hj : j < l.length - 1
    · rw [if_pos (by omega), Array.getElem?_toList, g3 j (by omega), if_pos ⟨by omega, by simp only [List.length_map, List.length_append, hli]; omega⟩, Nat.sub_zero, List.getElem?_map, List.getElem?_append_left (by omega), natI, List.getElem?_map]
    · rw [if_neg (by omega)]
      symm
      apply List.getElem?_eq_none
      rw [List.length_map, List.length_eraseIdx, if_pos hi]
      omega
  · have := setCells_fr (b := g) ((ints (l.eraseIdx i) ++ List.replicate (i + 1 - i) 0).map (Value.int .i64)) 0 (w.drewN q)
    exact ⟨this.os, this.tape, this.output, this.size, this.block, this.oth⟩
end Go.Proofs.Ytapbghkoijmjeaa
