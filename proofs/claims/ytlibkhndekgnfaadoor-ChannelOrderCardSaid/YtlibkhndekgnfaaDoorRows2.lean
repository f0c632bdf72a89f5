/- Lists of values, of waiters and of deals in memory. -/
import Derived.Test.YtlibkhndekgnfaaDoorNew
namespace Go.Proofs.YtlibkhndekgnfaaDoor
open Go.RowKit

theorem below_drewN {B : Nat} {a w : World} (h : Below B a w) (n : Nat) : Below B a (w.drewN n) := ⟨h.os, h.tape, h.output, h.size, h.block⟩

theorem flat_get {α : Type} {f : α → List Value} {sz : Nat} (hf : ∀ x, (f x).length = sz) : ∀ (l : List α) (j i : Nat) (x : α), l[j]? = some x → i < sz → (l.flatMap f)[j * sz + i]? = (f x)[i]?
  | [], _, _, _, h, _ => by simp at h
  | a :: l, 0, i, x, h, hi => by
    have e : a = x := by simpa using h
    subst e
    rw [List.flatMap_cons, Nat.zero_mul, Nat.zero_add, List.getElem?_append_left (by rw [hf]; exact hi)]
  | a :: l, j + 1, i, x, h, hi => by
    have e : (j + 1) * sz + i = sz + (j * sz + i) := by rw [Nat.add_mul]; omega
    rw [List.flatMap_cons, e, List.getElem?_append_right (by rw [hf]; omega), hf, Nat.add_sub_cancel_left]
    exact flat_get hf l j i x (by simpa using h) hi
theorem flat_len {α : Type} {f : α → List Value} {sz : Nat} (hf : ∀ x, (f x).length = sz) : ∀ l : List α, (l.flatMap f).length = l.length * sz
  | [] => by simp
  | a :: l => by rw [List.flatMap_cons, List.length_append, hf, flat_len hf l, List.length_cons, Nat.add_mul]; omega

/-- A slice that holds elements of sz cells. -/
def RowAt {α : Type} (f : α → List Value) (sz : Nat) (t : TypeId) (W : World) (base : Nat) (v : Value) (l : List α) : Prop := W.ownsRow base t sz v l.length (l.flatMap f)

section
variable {α : Type} {f : α → List Value} {sz : Nat} {t : TypeId} {W W' : World} {base : Nat} {v : Value} {l : List α}
theorem RowAt.nil (f : α → List Value) (sz : Nat) (t : TypeId) (W : World) (base : Nat) : RowAt f sz t W base (.slice none 0 0) [] := World.ownsRow_nil _ _ _ _
theorem RowAt.fr (h : RowAt f sz t W base v l) {L : List Nat} (hf : Fr L W W') (hL : ∀ k, v.ownBlock = some k → k ∉ L) : RowAt f sz t W' base v l := owns_fr h hf hL
theorem RowAt.below (h : RowAt f sz t W base v l) (hb : Below W.heap.size W W') : RowAt f sz t W' base v l := h.fr (L := []) (Fr.of_below hb) (by simp)
theorem RowAt.drewN (h : RowAt f sz t W base v l) (n : Nat) : RowAt f sz t (W.drewN n) base v l := h
theorem RowAt.block (h : RowAt f sz t W base v l) : ∀ k, v.ownBlock = some k → base ≤ k ∧ k < W.heap.size := h.lt
theorem RowAt.form (h : RowAt f sz t W base v l) : (l = [] ∧ v = .slice none 0 0) ∨ ∃ g cap, v = .slice (some ⟨g, 0, none⟩) l.length cap ∧ l.length ≤ cap ∧ cap ≤ maxLen ∧ base ≤ g ∧ g < W.heap.size := by
  rcases h.2 with ⟨e, h0⟩ | ⟨g, cap, cur, e, hbg, hg, h1, h2, _⟩
  · exact .inl ⟨List.eq_nil_of_length_eq_zero h0, e⟩
  · exact .inr ⟨g, cap, e, h1, h2, hbg, (Array.getElem?_eq_some_iff.1 hg).1⟩
theorem RowAt.form2 (h : RowAt f sz t W base v l) : ∃ p cap, v = .slice p l.length cap ∧ (0 < l.length → ∃ g, p = some ⟨g, 0, none⟩ ∧ base ≤ g ∧ g < W.heap.size ∧ l.length ≤ cap ∧ cap ≤ maxLen) := by
  rcases h.form with ⟨rfl, e⟩ | ⟨g, cap, e, h1, h2, h3, h4⟩
  · exact ⟨none, 0, e, fun h => absurd h (by simp)⟩
  · exact ⟨_, cap, e, fun _ => ⟨g, rfl, h3, h4, h1, h2⟩⟩
theorem RowAt.pos (h : RowAt f sz t W base v l) (hp : 0 < l.length) : ∃ g cap, v = .slice (some ⟨g, 0, none⟩) l.length cap ∧ l.length ≤ cap ∧ cap ≤ maxLen ∧ base ≤ g ∧ g < W.heap.size := by
  rcases h.form with ⟨rfl, _⟩ | h
  · simp at hp
  · exact h
theorem RowAt.get {g n cap : Nat} (h : RowAt f sz t W base (.slice (some ⟨g, 0, none⟩) n cap) l) (hf : ∀ x, (f x).length = sz) {j i : Nat} {x : α} {u : Value} (hx : l[j]? = some x) (hi : i < sz) (hu : (f x)[i]? = some u) :
    W.cell? ⟨g, j * sz + i, none⟩ = some u := by
  rcases h.2 with ⟨e, _⟩ | ⟨g', cap', cur, e, _, hg, h1, h2, h3, h4⟩
  · cases e
  · cases e
    have hc : (l.flatMap f)[j * sz + i]? = some u := (flat_get hf l j i x hx hi).trans hu
    rw [← h4] at hc
    have hc' : cur[j * sz + i]? = some u := by
      rw [List.getElem?_take] at hc
      split at hc
      · simpa using hc
      · cases hc
    simp [World.cell?, hg, hc']
end

/-- The cells of a value, of a waiter. -/
def vCells (v : Cn.V) : List Value := [.int .i64 v.k, .int .i64 v.n, .string v.s]
def wCells (w : Cn.Wt) : List Value := [.int .i64 w.t, .bool w.send, .int .i64 w.v.k, .int .i64 w.v.n, .string w.v.s]
theorem vCells_len (v : Cn.V) : (vCells v).length = 3 := rfl
theorem wCells_len (v : Cn.Wt) : (wCells v).length = 5 := rfl
abbrev VsAt := RowAt vCells 3 37
abbrev WsAt := RowAt wCells 5 59
theorem VsAt.cells {W : World} {base g n cap : Nat} {l : List Cn.V} (h : VsAt W base (.slice (some ⟨g, 0, none⟩) n cap) l) {j : Nat} {x : Cn.V} (hx : l[j]? = some x) :
    W.cell? ⟨g, j * 3, none⟩ = some (.int .i64 x.k) ∧ W.cell? ⟨g, j * 3 + 1, none⟩ = some (.int .i64 x.n) ∧ W.cell? ⟨g, j * 3 + 2, none⟩ = some (.string x.s) :=
  ⟨RowAt.get h vCells_len (i := 0) hx (by omega) rfl, RowAt.get h vCells_len (i := 1) hx (by omega) rfl, RowAt.get h vCells_len (i := 2) hx (by omega) rfl⟩
theorem WsAt.cells {W : World} {base g n cap : Nat} {l : List Cn.Wt} (h : WsAt W base (.slice (some ⟨g, 0, none⟩) n cap) l) {j : Nat} {x : Cn.Wt} (hx : l[j]? = some x) :
    W.cell? ⟨g, j * 5, none⟩ = some (.int .i64 x.t) ∧ W.cell? ⟨g, j * 5 + 1, none⟩ = some (.bool x.send) ∧ W.cell? ⟨g, j * 5 + 2, none⟩ = some (.int .i64 x.v.k) ∧ W.cell? ⟨g, j * 5 + 3, none⟩ = some (.int .i64 x.v.n) ∧ W.cell? ⟨g, j * 5 + 4, none⟩ = some (.string x.v.s) :=
  ⟨RowAt.get h wCells_len (i := 0) hx (by omega) rfl, RowAt.get h wCells_len (i := 1) hx (by omega) rfl, RowAt.get h wCells_len (i := 2) hx (by omega) rfl, RowAt.get h wCells_len (i := 3) hx (by omega) rfl, RowAt.get h wCells_len (i := 4) hx (by omega) rfl⟩
end Go.Proofs.YtlibkhndekgnfaaDoor
