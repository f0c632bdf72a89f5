/- Library functions over lists of numbers in memory. -/
import Derived.Test.YtapbghkoijmjeaaInv
import Derived.Test.YtapbghkoijmjeaaShelf2
namespace Go.Proofs.Ytapbghkoijmjeaa
set_option linter.unusedVariables false
set_option linter.unusedSimpArgs false
open Go.RowKit Go.Shelf
/-- All of a row is written anew. -/
theorem owns_setCells {w : World} {b n g cap : Nat} {xs vs : List Value} (h : w.ownsRow b 3 1 (.slice (some ⟨g, 0, none⟩) n cap) n xs) (hv : vs.length = n) :
    (w.setCells g 0 vs).ownsRow b 3 1 (.slice (some ⟨g, 0, none⟩) n cap) n vs := by
  rcases h.2 with ⟨h1, _⟩ | ⟨g', cap', cur, h1, h2, hg, h4, h5, h6, h7⟩
  · cases h1
  · cases h1
    obtain ⟨cur', g1, g2, g3⟩ := setCells_heap (b := g) (t := 3) vs 0 w cur hg
    refine ⟨by omega, .inr ⟨g, cap, cur', rfl, h2, g1, h4, h5, by omega, ?_⟩⟩
    apply List.ext_getElem?
    intro j
    rw [List.getElem?_take]
    by_cases hj : j < n
    · rw [if_pos (by omega), Array.getElem?_toList, g3 j (by omega), if_pos ⟨by omega, by omega⟩, Nat.sub_zero]
    · rw [if_neg (by omega)]
      symm
      exact List.getElem?_eq_none (by omega)
theorem row_ints {w : World} {b g cap : Nat} {l : List Int} (h : w.ownsRow b 3 1 (.slice (some ⟨g, 0, none⟩) l.length cap) l.length (l.map (Value.int .i64))) :
    (∀ j, j < l.length → w.cell? ⟨g, 0 + j, none⟩ = some (.int .i64 (l.getD j 0))) ∧ (∀ j, w.frozen? ⟨g, j, none⟩ = false) := by
  constructor
  · intro j hj
    have := h.cells (g := g) rfl j (.int .i64 (l[j]'hj)) (by rw [List.getElem?_map, List.getElem?_eq_getElem hj]; rfl)
    rw [add_off] at this
    rw [this, List.getD_eq_getElem?_getD, List.getElem?_eq_getElem hj]; rfl
  · intro j
    rcases h.2 with ⟨h1, _⟩ | ⟨g', cap', cur, h1, h2, hg, _⟩
    · cases h1
    · cases h1
      simp [World.frozen?, hg]
theorem rev_row (w : World) {b : Nat} {p : Option Addr} {cap : Nat} (l : List Int) (hl : l.length ≤ 1000000) (h : w.ownsRow b 3 1 (.slice p l.length cap) l.length (l.map (Value.int .i64))) :
    Calls Try.prog 26 #[.slice p l.length cap] w fun e w' => e = .returned (.tuple #[]) ∧ w'.ownsRow b 3 1 (.slice p l.length cap) l.length (l.reverse.map (Value.int .i64)) ∧ Fr (fun x => (Value.slice p l.length cap).ownBlock = some x) w w' := by
  rcases List.eq_nil_or_concat l with rfl | ⟨l', a, hc⟩
  · refine (Any.slices_Reverse_int_empty Try.lays112 p cap w).mono ?_
    rintro e w' ⟨rfl, rfl⟩
    exact ⟨rfl, h, Fr.refl _ _⟩
  · have hp : ∃ g, p = some ⟨g, 0, none⟩ := by
      rcases h.2 with ⟨h1, h0⟩ | ⟨g, cap', cur, h1, _⟩
      · rw [hc] at h0; simp at h0
      · cases h1; exact ⟨g, rfl⟩
    obtain ⟨g, rfl⟩ := hp
    obtain ⟨hcell, hf⟩ := row_ints h
    refine (Any.slices_Reverse_int_cells Try.lays112 g 0 l.length cap l w (Nat.le_refl _) (by omega) hcell (fun j _ => hf _)).mono ?_
    rintro e w' ⟨rfl, q, rfl⟩
    rw [List.take_length]
    refine ⟨rfl, owns_setCells (xs := l.map (Value.int .i64)) h (by simp), ?_⟩
    have := setCells_fr (b := g) (l.reverse.map (Value.int .i64)) 0 (w.drewN q)
    exact ⟨this.os, this.tape, this.output, this.size, fun k hk hn => this.block k hk (fun e => hn (by rw [e]; rfl)), this.oth⟩
/-- A list of numbers lies at an address. -/
def NumsAt (W : World) (p : Option Addr) (l : List Int) : Prop := 0 < l.length → ∃ g off, p = some ⟨g, off, none⟩ ∧ ∀ j, j < l.length → W.cell? ⟨g, off + j, none⟩ = some (.int .i64 (l.getD j 0))
theorem nums_at {W : World} {b : Nat} {p : Option Addr} {cap : Nat} {l : List Int} (h : W.ownsRow b 3 1 (.slice p l.length cap) l.length (l.map (Value.int .i64))) : NumsAt W p l := fun hp => by
  rcases h.2 with ⟨h1, h0⟩ | ⟨g, cap', cur, h1, _⟩
  · omega
  · cases h1; exact ⟨g, 0, rfl, (row_ints h).1⟩
theorem NumsAt.below {W W' : World} {p : Option Addr} {l : List Int} (h : NumsAt W p l) (hb : Below W.heap.size W W') : NumsAt W' p l := fun hp => by
  obtain ⟨g, off, e, hc⟩ := h hp
  exact ⟨g, off, e, fun j hj => cell_of hb (hc j hj)⟩
theorem equalI_any (w : World) (p q : Option Addr) (cp cq : Nat) (l r : List Int) (hl : l.length ≤ 1000000) (hr : r.length ≤ 1000000) (hp : NumsAt w p l) (hq : NumsAt w q r) :
    Calls Try.prog 28 #[.slice p l.length cp, .slice q r.length cq] w (still w (.bool (l == r))) := by
  unfold still
  by_cases h0 : l.length = r.length
  · by_cases h1 : 0 < l.length
    · obtain ⟨g1, o1, rfl, hc1⟩ := hp h1
      obtain ⟨g2, o2, rfl, hc2⟩ := hq (by omega)
      refine (Any.slices_Equal_int Try.lays111 g1 o1 l.length cp g2 o2 r.length cq l r w (Nat.le_refl _) (Nat.le_refl _) (by omega) (by omega) hc1 hc2).mono ?_
      rintro e w' ⟨rfl, z, rfl⟩
      rw [List.take_length, List.take_length]
      exact ⟨rfl, below_drewN (Below.refl _ _) _⟩
    · obtain rfl : l = [] := List.eq_nil_of_length_eq_zero (by omega)
      obtain rfl : r = [] := List.eq_nil_of_length_eq_zero (by simp at h0; omega)
      refine (Any.slices_Equal_int_empty Try.lays111 p q cp 0 cq w (by omega)).mono ?_
      rintro e w' ⟨rfl, rfl⟩
      exact ⟨rfl, Below.refl _ _⟩
  · refine (Any.slices_Equal_int_lens Try.lays111 p q l.length cp r.length cq w h0).mono ?_
    rintro e w' ⟨rfl, rfl⟩
    refine ⟨?_, Below.refl _ _⟩
    have : (l == r) = false := by
      cases h : l == r with
      | false => rfl
      | true => exact absurd (by rw [eq_of_beq h]) h0
    rw [this]
end Go.Proofs.Ytapbghkoijmjeaa
