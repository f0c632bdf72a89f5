/- What stays true of a ledger. -/
import Derived.Test.YtapbghkoijmjeaaRun
namespace Go.Proofs.Ytapbghkoijmjeaa
set_option linter.unusedVariables false
set_option linter.unusedSimpArgs false
open Go.RowKit Go.Shelf
def relN (l : List Ld.En) : Nat := l.countP fun e => decide (e.to_ ≠ 0)
structure Ld.Inv (t : Ld.T) : Prop where
  n400 : t.es.length ≤ 400
  n40 : ∀ k, (t.hs k).length ≤ 40
  tm : t.time = t.es.length + relN t.es
  asc : ∀ k, (t.hs k).Pairwise (· < ·)
  mem : ∀ (k a : Nat), a ∈ t.hs k ↔ 1 ≤ k ∧ k ≤ 64 ∧ ∃ e, t.es[a]? = some e ∧ e.task = (k : Int) ∧ e.to_ = 0
  opn : ∀ (i : Nat) e, t.es[i]? = some e → e.to_ = 0 → ∃ k, i ∈ t.hs k
  ord : ∀ (i : Nat) e, t.es[i]? = some e → 1 ≤ e.frm ∧ e.frm ≤ t.time ∧ (e.to_ = 0 ∨ (e.frm < e.to_ ∧ e.to_ ≤ t.time))
  fls : ∀ (i : Nat) e, t.es[i]? = some e → e.to_ = 0 → e.cr = false ∧ e.lk = false
theorem relN_le (l : List Ld.En) : relN l ≤ l.length := List.countP_le_length
theorem Ld.Inv.ok {t : Ld.T} (h : Ld.Inv t) : Ld.Ok t := ⟨h.n400, h.n40, by have := relN_le t.es; have := h.tm; have := h.n400; omega, fun k a ha => by
  obtain ⟨_, _, e, he, _⟩ := (h.mem k a).1 ha
  exact (List.getElem?_eq_some_iff.1 he).1⟩
theorem inv0 : Ld.Inv Ld.new := ⟨by simp [Ld.new], by simp [Ld.new], rfl, by simp [Ld.new], by simp [Ld.new], by simp [Ld.new], by simp [Ld.new], by simp [Ld.new]⟩
theorem relN_set : ∀ {l : List Ld.En} {i : Nat} {e e' : Ld.En}, l[i]? = some e → e.to_ = 0 → e'.to_ ≠ 0 → relN (l.set i e') = relN l + 1
  | [], i, e, e', h, _, _ => by simp at h
  | x :: l, 0, e, e', h, h1, h2 => by
    have hx : x = e := by simpa using h
    subst hx
    simp [relN, List.countP_cons, h1, h2]
  | x :: l, i + 1, e, e', h, h1, h2 => by
    have := relN_set (l := l) (i := i) (by simpa using h) h1 h2
    simp only [relN, List.set_cons_succ, List.countP_cons] at this ⊢
    omega
theorem Ld.Inv.add {t : Ld.T} (h : Ld.Inv t) {k : Nat} (h1 : 1 ≤ k) (h2 : k ≤ 64) (hl : (t.hs k).length < 40) (he : t.es.length < 400) (what : Int) : Ld.Inv (Ld.add t k what) := by
  have ex : ∀ (i : Nat) e, (Ld.add t k what).es[i]? = some e → t.es[i]? = some e ∨ (i = t.es.length ∧ e = ⟨what, (k : Int), ((t.time + 1 : Nat) : Int), 0, false, false⟩) := fun i e hx => by
    simp only [Ld.add] at hx
    by_cases hi : i < t.es.length
    · rw [List.getElem?_append_left hi] at hx; exact .inl hx
    · rw [List.getElem?_append_right (by omega)] at hx
      cases hd : i - t.es.length with
      | zero => rw [hd] at hx; exact .inr ⟨by omega, by simpa using hx.symm⟩
      | succ n => rw [hd] at hx; simp at hx
  have ew : (Ld.add t k what).es[t.es.length]? = some ⟨what, (k : Int), ((t.time + 1 : Nat) : Int), 0, false, false⟩ := by simp [Ld.add]
  have eo : ∀ (i : Nat) e, t.es[i]? = some e → (Ld.add t k what).es[i]? = some e := fun i e hx => by
    simp only [Ld.add]
    rw [List.getElem?_append_left (List.getElem?_eq_some_iff.1 hx).1]; exact hx
  have lt : ∀ j a, a ∈ t.hs j → a < t.es.length := fun j a ha => h.ok.lt j a ha
  refine ⟨by simp [Ld.add]; omega, fun j => ?_, ?_, fun j => ?_, fun j a => ?_, fun i e hx ht => ?_, fun i e hx => ?_, fun i e hx ht => ?_⟩
  · simp only [Ld.add]
    split
    · simp; omega
    · exact h.n40 j
  · simp [Ld.add, relN, List.countP_append, List.countP_cons]
    have := h.tm
    simp only [relN] at this
    simp at this
    omega
  · simp only [Ld.add]
    split
    · refine List.pairwise_append.2 ⟨h.asc k, by simp, fun a ha b hb => ?_⟩
      simp at hb
      have := lt k a ha
      omega
    · exact h.asc j
  · constructor
    · intro ha
      simp only [Ld.add] at ha
      split at ha
      · rename_i hj
        subst hj
        rcases List.mem_append.1 ha with ha | ha
        · obtain ⟨a1, a2, e, he1, he2⟩ := (h.mem j a).1 ha
          exact ⟨a1, a2, e, eo _ _ he1, he2⟩
        · simp at ha
          subst ha
          exact ⟨h1, h2, _, ew, rfl, rfl⟩
      · obtain ⟨a1, a2, e, he1, he2⟩ := (h.mem j a).1 ha
        exact ⟨a1, a2, e, eo _ _ he1, he2⟩
    · rintro ⟨a1, a2, e, he1, he2, he3⟩
      simp only [Ld.add]
      rcases ex a e he1 with hx | ⟨hx, rfl⟩
      · have := (h.mem j a).2 ⟨a1, a2, e, hx, he2, he3⟩
        split
        · rename_i hj; subst hj; exact List.mem_append_left _ this
        · exact this
      · simp at he2
        rw [if_pos (by omega)]
        simp [hx]
  · rcases ex i e hx with hx | ⟨hil, rfl⟩
    · obtain ⟨j, hj⟩ := h.opn i e hx ht
      refine ⟨j, ?_⟩
      simp only [Ld.add]
      split
      · rename_i hk; subst hk; exact List.mem_append_left _ hj
      · exact hj
    · exact ⟨k, by simp [Ld.add]; exact .inr hil⟩
  · rcases ex i e hx with hx | ⟨hx, rfl⟩
    · obtain ⟨a1, a2, a3⟩ := h.ord i e hx
      simp only [Ld.add]
      refine ⟨a1, by omega, a3.imp id fun a => ⟨a.1, by omega⟩⟩
    · simp [Ld.add]
      omega
  · rcases ex i e hx with hx | ⟨hx, rfl⟩
    · exact h.fls i e hx ht
    · exact ⟨rfl, rfl⟩
/-- A change of an entry that leaves what it says of the resource. -/
def Keeps (f : Ld.En → Ld.En) : Prop := ∀ e, (f e).what = e.what ∧ (f e).task = e.task ∧ (f e).frm = e.frm ∧ (f e).to_ = e.to_
theorem keeps_crs (b : Bool) : Keeps (Ld.crs b) := fun e => ⟨rfl, rfl, rfl, rfl⟩
theorem keeps_leak : Keeps Ld.leak := fun e => ⟨rfl, rfl, rfl, rfl⟩
theorem erase_ne {l : List Nat} {i a b : Nat} (hi : l[i]? = some a) (hb : b ∈ l) (hne : b ≠ a) : b ∈ l.eraseIdx i := by
  obtain ⟨j, hj, rfl⟩ := List.mem_iff_getElem.1 hb
  have hji : j ≠ i := fun e => by subst e; rw [List.getElem?_eq_getElem hj] at hi; exact hne (Option.some.inj hi)
  exact List.mem_eraseIdx_iff_getElem.2 ⟨j, hj, hji, rfl⟩
theorem erase_not {l : List Nat} (hp : l.Pairwise (· < ·)) {i a : Nat} (hi : l[i]? = some a) : a ∉ l.eraseIdx i := by
  intro ha
  obtain ⟨j, hj, hji, e⟩ := List.mem_eraseIdx_iff_getElem.1 ha
  obtain ⟨hil, e2⟩ := List.getElem?_eq_some_iff.1 hi
  rcases Nat.lt_or_gt_of_ne hji with h | h
  · have := List.pairwise_iff_getElem.1 hp j i hj hil h; omega
  · have := List.pairwise_iff_getElem.1 hp i j hil hj h; omega
theorem Ld.Inv.rel {t : Ld.T} (h : Ld.Inv t) {k i a : Nat} (hi : (t.hs k)[i]? = some a) {f : Ld.En → Ld.En} (hf : Keeps f) : Ld.Inv (Ld.relE (Ld.setH t k ((t.hs k).eraseIdx i)) a f) := by
  have ham := List.mem_of_getElem? hi
  obtain ⟨k1, k2, e0, he0, het, hez⟩ := (h.mem k a).1 ham
  have hal := (List.getElem?_eq_some_iff.1 he0).1
  obtain ⟨e1, he1⟩ : ∃ e1, e1 = f { e0 with to_ := ((t.time + 1 : Nat) : Int) } := ⟨_, rfl⟩
  have hE : Ld.relE (Ld.setH t k ((t.hs k).eraseIdx i)) a f = ⟨t.time + 1, t.es.set a e1, fun j => if j = k then (t.hs k).eraseIdx i else t.hs j⟩ := by
    unfold Ld.relE
    rw [show (Ld.setH t k ((t.hs k).eraseIdx i)).es[a]? = some e0 from he0]
    simp [Ld.setH, he1]
  obtain ⟨f1, f2, f3, f4⟩ := hf { e0 with to_ := ((t.time + 1 : Nat) : Int) }
  rw [← he1] at f1 f2 f3 f4
  simp only at f1 f2 f3 f4
  rw [hE]
  have ex : ∀ (j : Nat) e, (t.es.set a e1)[j]? = some e → (j = a ∧ e = e1) ∨ (j ≠ a ∧ t.es[j]? = some e) := fun j e hx => by
    by_cases hj : j = a
    · subst hj
      rw [List.getElem?_set_self hal] at hx
      exact .inl ⟨rfl, (Option.some.inj hx).symm⟩
    · rw [List.getElem?_set_ne (Ne.symm hj)] at hx
      exact .inr ⟨hj, hx⟩
  have hnot := erase_not (h.asc k) hi
  have ho := h.ord a e0 he0
  refine ⟨by simpa using h.n400, fun j => ?_, ?_, fun j => ?_, fun j b => ?_, fun j e hx ht => ?_, fun j e hx => ?_, fun j e hx ht => ?_⟩
  · simp only
    split
    · exact Nat.le_trans (erase_len _ _) (h.n40 k)
    · exact h.n40 j
  · simp only
    rw [relN_set he0 hez (by rw [f4]; omega), List.length_set]
    have := h.tm
    omega
  · simp only
    split
    · exact (h.asc k).sublist (List.eraseIdx_sublist _ _)
    · exact h.asc j
  · simp only
    constructor
    · intro hb
      have hbo : b ∈ t.hs j ∧ b ≠ a := by
        split at hb
        · rename_i hj
          subst hj
          exact ⟨erase_mem hb, fun e => hnot (e ▸ hb)⟩
        · rename_i hj
          refine ⟨hb, fun e => ?_⟩
          subst e
          obtain ⟨_, _, e2, h3, h4, _⟩ := (h.mem j b).1 hb
          rw [he0] at h3
          cases h3
          omega
      obtain ⟨a1, a2, e, h3, h4⟩ := (h.mem j b).1 hbo.1
      exact ⟨a1, a2, e, by rw [List.getElem?_set_ne (Ne.symm hbo.2)]; exact h3, h4⟩
    · rintro ⟨a1, a2, e, h3, h4, h5⟩
      rcases ex b e h3 with ⟨rfl, rfl⟩ | ⟨hne, h3⟩
      · rw [f4] at h5; omega
      · have := (h.mem j b).2 ⟨a1, a2, e, h3, h4, h5⟩
        split
        · rename_i hj; subst hj; exact erase_ne hi this hne
        · exact this
  · rcases ex j e hx with ⟨rfl, rfl⟩ | ⟨hne, hx⟩
    · rw [f4] at ht; omega
    · obtain ⟨q, hq⟩ := h.opn j e hx ht
      refine ⟨q, ?_⟩
      simp only
      split
      · rename_i hj; subst hj; exact erase_ne hi hq hne
      · exact hq
  · rcases ex j e hx with ⟨rfl, rfl⟩ | ⟨hne, hx⟩
    · rw [f3, f4]
      simp only
      refine ⟨ho.1, by omega, .inr ⟨by omega, by omega⟩⟩
    · obtain ⟨a1, a2, a3⟩ := h.ord j e hx
      simp only
      exact ⟨a1, by omega, a3.imp id fun a => ⟨a.1, by omega⟩⟩
  · rcases ex j e hx with ⟨rfl, rfl⟩ | ⟨hne, hx⟩
    · rw [f4] at ht; omega
    · exact h.fls j e hx ht
theorem Ld.Inv.acquire {t : Ld.T} (h : Ld.Inv t) (task what : Int) : Ld.Inv (Ld.acquire t task what).1 := by
  unfold Ld.acquire
  split
  · exact h
  · split
    · exact h
    · rename_i h1 h2
      have hb : Ld.knows task = true ∧ Ld.isWhat what = true := by simpa using h1
      obtain ⟨k, rfl, k1, k2⟩ := knows_nat hb.1
      rw [show ((k : Int)).toNat = k by omega] at h2 ⊢
      have := h.n40 k
      have := h.n400
      exact h.add k1 k2 (by omega) (by omega) what
theorem Ld.Inv.release {t : Ld.T} (h : Ld.Inv t) (task what : Int) : Ld.Inv (Ld.release t task what).1 := by
  unfold Ld.release
  split
  · exact h
  · split
    · exact h
    · rename_i i hi
      have hl := lastAt_lt hi
      exact h.rel (by rw [List.getElem?_eq_getElem hl, List.getD_eq_getElem?_getD, List.getElem?_eq_getElem hl]; rfl) (keeps_crs _)
theorem Ld.Inv.drain {k : Nat} : ∀ (r : List Nat) {t : Ld.T}, Ld.Inv t → t.hs k = r.reverse → Ld.Inv (Ld.drain k r t).1
  | [], t, h, _ => h
  | a :: r, t, h, hr => by
    rw [drain_cons]
    have hi : (t.hs k)[r.reverse.length]? = some a := by rw [hr]; simp
    have he : (t.hs k).eraseIdx r.reverse.length = r.reverse := by rw [hr, List.reverse_cons]; exact erase_last _ _
    have h2 := h.rel hi keeps_leak
    rw [he] at h2
    exact Ld.Inv.drain r h2 (by rw [relE_hs]; simp [Ld.setH])
theorem Ld.Inv.end_ {t : Ld.T} (h : Ld.Inv t) (task : Int) : Ld.Inv (Ld.end_ t task).1 := by
  unfold Ld.end_
  split
  · exact h
  · exact Ld.Inv.drain _ h (by simp)
theorem Ld.Inv.step {t : Ld.T} (h : Ld.Inv t) (o : Op) : Ld.Inv (Ld.step t o) := by
  unfold Ld.step
  split
  · exact h.acquire _ _
  · split
    · exact h.release _ _
    · split
      · exact h.end_ _
      · exact h
end Go.Proofs.Ytapbghkoijmjeaa
