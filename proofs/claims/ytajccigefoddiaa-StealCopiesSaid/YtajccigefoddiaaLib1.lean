/- Library functions over lists of numbers in memory. -/
import Derived.Test.YtajccigefoddiaaShelf
import Derived.Test.YtajccigefoddiaaStp
namespace Go.Proofs.Ytajccigefoddiaa
set_option linter.unusedVariables false
set_option linter.unusedSimpArgs false
open Go.RowKit Go.Shelf
theorem row_ints {w : World} {b g cap : Nat} {l : List Int} (h : w.ownsRow b 3 1 (.slice (some ⟨g, 0, none⟩) l.length cap) l.length (ints l)) :
    (∀ j, j < l.length → w.cell? ⟨g, 0 + j, none⟩ = some (.int .i64 (l.getD j 0))) ∧ (∀ j, w.frozen? ⟨g, j, none⟩ = false) := by
  constructor
  · intro j hj
    have := h.cells (g := g) rfl j (.int .i64 (l[j]'hj)) (by unfold ints; rw [List.getElem?_map, List.getElem?_eq_getElem hj]; rfl)
    rw [add_off] at this
    rw [this, List.getD_eq_getElem?_getD, List.getElem?_eq_getElem hj]; rfl
  · intro j
    rcases h.2 with ⟨h1, _⟩ | ⟨g', cap', cur, h1, h2, hg, _⟩
    · cases h1
    · cases h1
      simp [World.frozen?, hg]
/-- A list of numbers lies at an address. -/
def NumsAt (W : World) (p : Option Addr) (l : List Int) : Prop := 0 < l.length → ∃ g off, p = some ⟨g, off, none⟩ ∧ g < W.heap.size ∧ ∀ j, j < l.length → W.cell? ⟨g, off + j, none⟩ = some (.int .i64 (l.getD j 0))
theorem nums_at {W : World} {b : Nat} {p : Option Addr} {cap : Nat} {l : List Int} (h : W.ownsRow b 3 1 (.slice p l.length cap) l.length (ints l)) : NumsAt W p l := fun hp => by
  rcases h.2 with ⟨h1, h0⟩ | ⟨g, cap', cur, h1, _, hg, _⟩
  · omega
  · cases h1; exact ⟨g, 0, rfl, (Array.getElem?_eq_some_iff.1 hg).1, (row_ints h).1⟩
theorem NumsAt.below {W W' : World} {p : Option Addr} {l : List Int} (h : NumsAt W p l) (hb : Below W.heap.size W W') : NumsAt W' p l := fun hp => by
  obtain ⟨g, off, e, hg, hc⟩ := h hp
  exact ⟨g, off, e, Nat.lt_of_lt_of_le hg hb.size, fun j hj => cell_of hb (hc j hj)⟩
theorem NumsAt.fr {W W' : World} {p : Option Addr} {l : List Int} (h : NumsAt W p l) {S : Nat → Prop} (hb : Fr S W W') (hn : ∀ g off, p = some ⟨g, off, none⟩ → ¬ S g) : NumsAt W' p l := fun hp => by
  obtain ⟨g, off, e, hg, hc⟩ := h hp
  exact ⟨g, off, e, Nat.lt_of_lt_of_le hg hb.size, fun j hj => (hb.cell (p := ⟨g, off + j, none⟩) hg (hn g off e)).trans (hc j hj)⟩
theorem equalI_any (w : World) (p q : Option Addr) (cp cq : Nat) (l r : List Int) (hl : l.length ≤ 1000000) (hr : r.length ≤ 1000000) (hp : NumsAt w p l) (hq : NumsAt w q r) :
    Calls Try.prog 23 #[.slice p l.length cp, .slice q r.length cq] w (still w (.bool (l == r))) := by
  unfold still
  by_cases h0 : l.length = r.length
  · by_cases h1 : 0 < l.length
    · obtain ⟨g1, o1, rfl, _, hc1⟩ := hp h1
      obtain ⟨g2, o2, rfl, _, hc2⟩ := hq (by omega)
      refine (Any.slices_Equal_int Try.lays111 g1 o1 l.length cp g2 o2 r.length cq l r w (Nat.le_refl _) (Nat.le_refl _) (by omega) (by omega) hc1 hc2).mono ?_
      rintro e w' ⟨rfl, z, rfl⟩
      rw [List.take_length, List.take_length]
      exact ⟨rfl, below_drewN (Below.refl _ _) _⟩
    · obtain rfl : l = [] := List.eq_nil_of_length_eq_zero (by omega)
      obtain rfl : r = [] := List.eq_nil_of_length_eq_zero (by simp at h0; omega)
      refine (Any.slices_Equal_int_empty Try.lays111 p q cp 0 cq w (by omega)).mono ?_
      rintro e w' ⟨rfl, rfl⟩
      exact ⟨rfl, Below.refl _ _⟩
  · refine (Any.slices_Equal_int_lens Try.lays111 p q l.length cp r.length cq w h0).mono ?_
    rintro e w' ⟨rfl, rfl⟩
    refine ⟨?_, Below.refl _ _⟩
    have : (l == r) = false := by
      cases h : l == r with
      | false => rfl
      | true => exact absurd (by rw [eq_of_beq h]) h0
    rw [this]
/-- A list of numbers in new memory. -/
def numsPost (w : World) (l : List Int) (e : Ending) (w' : World) : Prop := ∃ p cap, e = .returned (.slice p l.length cap) ∧ l.length ≤ cap ∧ cap ≤ maxLen ∧ w'.ownsRow w.heap.size 3 1 (.slice p l.length cap) l.length (ints l) ∧ Below w.heap.size w w'
theorem slice_form {w : World} {b sz n : Nat} {e : TypeId} {v : Value} {xs : List Value} (h : w.ownsRow b e sz v n xs) : ∃ p cap, v = .slice p n cap := by
  rcases h.2 with ⟨e1, e2⟩ | ⟨g, cap, cur, e1, _⟩
  · exact ⟨none, 0, by rw [e1, e2]⟩
  · exact ⟨some ⟨g, 0, none⟩, cap, e1⟩
theorem nums_of_owns {w w' : World} {v : Value} {l : List Int} (h : w'.ownsRow w.heap.size 3 1 v l.length (ints l)) (hb : Below w.heap.size w w') : numsPost w l (.returned v) w' := by
  obtain ⟨p, cap, e, h1, h2, _⟩ := owns_form h
  subst e
  exact ⟨p, cap, rfl, h1, h2, h, hb⟩
theorem clone_at (w : World) (p : Option Addr) (n cap : Nat) (l : List Int) (hn : l.length = n) (hl : l.length ≤ 1000000) (h : NumsAt w p l) : Calls Try.prog 38 #[.slice p n cap] w (numsPost w l) := by
  subst hn
  cases p with
  | none =>
    have h0 : l = [] := by
      cases l with
      | nil => rfl
      | cons x l => obtain ⟨g, off, e, _⟩ := h (by simp); cases e
    subst h0
    refine (Any.slices_Clone_int_nil Try.laysNm215 0 cap w).mono ?_
    rintro e w' ⟨rfl, rfl⟩
    exact nums_of_owns (v := .slice none 0 0) (World.ownsRow_nil _ _ _ _) (Below.refl _ _)
  | some a =>
    by_cases h1 : 0 < l.length
    · obtain ⟨g, off, e, hg, hc⟩ := h h1
      cases e
      refine (Any.slices_Clone_int Try.laysNm215 g off l.length cap l w (Nat.le_refl _) (by omega) hc).mono ?_
      rintro e w' ⟨v', rfl, hr, -, hbl⟩
      rw [List.take_length] at hr
      exact nums_of_owns hr hbl
    · have h0 : l = [] := List.eq_nil_of_length_eq_zero (by omega)
      subst h0
      refine (Any.slices_Clone_int_zero Try.laysNm215 a cap w).mono ?_
      rintro e w' ⟨v', rfl, hr, -, hb⟩
      exact nums_of_owns (l := []) hr hb
end Go.Proofs.Ytajccigefoddiaa
