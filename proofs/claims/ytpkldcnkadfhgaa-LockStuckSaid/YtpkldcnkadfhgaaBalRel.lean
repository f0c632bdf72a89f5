/- LockBalance: what the loops use. -/
import Derived.Test.YtpkldcnkadfhgaaRun
import Derived.Test.YtpkldcnkadfhgaaStates
import Derived.Test.YtpkldcnkadfhgaaEqual
namespace Go.Proofs.Ytpkldcnkadfhgaa
open Go.RowKit

theorem flat_get {α : Type} {f : α → List Value} {sz : Nat} (hf : ∀ x, (f x).length = sz) : ∀ (l : List α) (j i : Nat) (x : α), l[j]? = some x → i < sz → (l.flatMap f)[j * sz + i]? = (f x)[i]?
  | [], _, _, _, h, _ => by simp at h
  | a :: l, 0, i, x, h, hi => by
    have e : a = x := by simpa using h
    subst e
    rw [List.flatMap_cons, Nat.zero_mul, Nat.zero_add, List.getElem?_append_left (by rw [hf]; exact hi)]
  | a :: l, j + 1, i, x, h, hi => by
    have e : (j + 1) * sz + i = sz + (j * sz + i) := by rw [Nat.add_mul]; omega
    rw [List.flatMap_cons, e, List.getElem?_append_right (by rw [hf]; omega), hf, Nat.add_sub_cancel_left]
    exact flat_get hf l j i x (by simpa using h) hi
theorem row_get {α : Type} {f : α → List Value} {sz : Nat} {t : TypeId} {W : World} {base : Nat} {v : Value} {l : List α} (h : W.ownsRow base t sz v l.length (l.flatMap f)) (hf : ∀ x, (f x).length = sz) {j : Nat} {x : α} (hx : l[j]? = some x) :
    ∃ g c, v = .slice (some ⟨g, 0, none⟩) l.length c ∧ l.length ≤ c ∧ c ≤ maxLen ∧ g < W.heap.size ∧ ∀ i u, (f x)[i]? = some u → W.cell? ⟨g, j * sz + i, none⟩ = some u := by
  rcases h.2 with ⟨_, h0⟩ | ⟨g, cap, cur, e, _, hg, h1, h2, h3, h4⟩
  · have := (List.getElem?_eq_some_iff.1 hx).1; omega
  · refine ⟨g, cap, e, h1, h2, (Array.getElem?_eq_some_iff.1 hg).1, fun i u hu => ?_⟩
    have hi : i < sz := by have := (List.getElem?_eq_some_iff.1 hu).1; rwa [hf] at this
    have hc : (l.flatMap f)[j * sz + i]? = some u := (flat_get hf l j i x hx hi).trans hu
    rw [← h4] at hc
    have hc' : cur[j * sz + i]? = some u := by
      rw [List.getElem?_take] at hc
      split at hc
      · simpa using hc
      · cases hc
    simp [World.cell?, hg, hc']
theorem HRow.get {W : World} {b : Nat} {v : Value} {l : Lk.KV} (h : HRow W b v l) {j : Nat} {x y : Int} (hx : l[j]? = some (x, y)) :
    ∃ g c, v = .slice (some ⟨g, 0, none⟩) l.length c ∧ g < W.heap.size ∧ W.cell? ⟨g, j * 2, none⟩ = some (.int .i64 x) ∧ W.cell? ⟨g, j * 2 + 1, none⟩ = some (.int .i64 y) := by
  obtain ⟨g, c, h1, -, -, h2, h3⟩ := row_get h (fun _ => rfl) hx
  exact ⟨g, c, h1, h2, h3 0 _ rfl, h3 1 _ rfl⟩
theorem Sts.get {w0 wt : World} {t : Lk.T} {i : Nat} {v : Value} {Ss : List SV} (h : Sts w0 t i v Ss wt) {j : Nat} {s : SV} (hx : Ss[j]? = some s) :
    ∃ g c, v = .slice (some ⟨g, 0, none⟩) Ss.length c ∧ g < wt.heap.size ∧ wt.cell? ⟨g, j * 4, none⟩ = some (.int .i64 s.tot) ∧ wt.cell? ⟨g, j * 4 + 1, none⟩ = some (.int .i64 s.free) ∧ wt.cell? ⟨g, j * 4 + 2, none⟩ = some s.hv ∧ wt.cell? ⟨g, j * 4 + 3, none⟩ = some s.qv := by
  obtain ⟨g, c, h1, -, -, h2, h3⟩ := row_get h.row (fun _ => rfl) hx
  exact ⟨g, c, h1, h2, h3 0 _ rfl, h3 1 _ rfl, h3 2 _ rfl, h3 3 _ rfl⟩

namespace Lk
/-- All that wait in the first locks. -/
def waitsOf (t : T) (j : Nat) : List Int := (t.ls.take j).flatMap (·.wait)
theorem waitsOf_succ {t : T} {j : Nat} {l : L} (h : t.ls[j]? = some l) : waitsOf t (j + 1) = waitsOf t j ++ l.wait := by
  unfold waitsOf
  rw [List.take_add_one, h]
  simp
theorem TOk.apart {t : T} (h : TOk t) {j : Nat} {l : L} (hl : t.ls[j]? = some l) {p : Int} (hp : p ∈ l.wait) : p ∉ waitsOf t j := by
  intro hm
  unfold waitsOf at hm
  obtain ⟨l', hl', hp'⟩ := List.mem_flatMap.1 hm
  obtain ⟨i, hi, hil⟩ := List.getElem_of_mem hl'
  have hij : i < j := by simp at hi; omega
  have hi2 : t.ls[i]? = some l' := by
    have : (t.ls.take j)[i]? = some l' := by rw [List.getElem?_eq_getElem hi, hil]
    rwa [List.getElem?_take, if_pos hij] at this
  have g1 := kget_of_mem h.asc (h.w1 i l' p hi2 hp')
  have g2 := kget_of_mem h.asc (h.w1 j l p hl hp)
  omega
theorem sum_take_succ {l : KV} {i : Nat} {x y : Int} (h : l[i]? = some (x, y)) : sum (l.take (i + 1)) = sum (l.take i) + y := by
  rw [List.take_add_one, h]
  simp [sum]
theorem sum_take_le {l : KV} (hp : ∀ p ∈ l, 0 ≤ p.2) : ∀ i, 0 ≤ sum (l.take i) ∧ sum (l.take i) ≤ sum l := by
  induction l with
  | nil => intro i; simp [sum]
  | cons p r ih =>
    intro i
    have ih := ih fun q hq => hp q (by simp [hq])
    have h0 := hp p (by simp)
    cases i with
    | zero =>
      have := ih r.length
      rw [List.take_length] at this
      simp only [List.take_zero, sum_cons]
      have e : sum ([] : KV) = 0 := by simp [sum]
      rw [e]; omega
    | succ i =>
      have := ih i
      simp only [List.take_succ_cons, sum_cons]
      omega
theorem waitsOf_nodup {t : T} (h : TOk t) : ∀ j, (waitsOf t j).Nodup ∧ ∀ p ∈ waitsOf t j, isP p := by
  intro j
  induction j with
  | zero =>
    have e : waitsOf t 0 = [] := rfl
    rw [e]
    exact ⟨List.nodup_nil, fun p hp => by simp at hp⟩
  | succ j ih =>
    by_cases hj : j < t.ls.length
    · obtain ⟨l, hl⟩ : ∃ l, t.ls[j]? = some l := ⟨_, List.getElem?_eq_getElem hj⟩
      have hlo := h.ok l (List.mem_of_getElem? hl)
      rw [waitsOf_succ hl]
      refine ⟨List.nodup_append.2 ⟨ih.1, hlo.nd, fun a ha b hb e => ?_⟩, fun p hp => ?_⟩
      · subst e; exact h.apart hl hb ha
      · rcases List.mem_append.1 hp with hp | hp
        · exact ih.2 p hp
        · exact hlo.ps p hp
    · have : waitsOf t (j + 1) = waitsOf t j := by
        unfold waitsOf
        rw [List.take_of_length_le (by omega), List.take_of_length_le (by omega)]
      rw [this]; exact ih
theorem waitsOf_len {t : T} (h : TOk t) (j : Nat) : (waitsOf t j).length ≤ 1000000 := nodup_bound (waitsOf_nodup h j).1 (waitsOf_nodup h j).2
end Lk
end Go.Proofs.Ytpkldcnkadfhgaa
