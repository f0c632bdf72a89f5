/- Entries only grow and are released once, and the times are the numbers from 1 on. -/
import Derived.Test.YtapbghkoijmjeaaInv
namespace Go.Proofs.Ytapbghkoijmjeaa
set_option linter.unusedVariables false
set_option linter.unusedSimpArgs false
open Go.RowKit Go.Shelf
structure Ld.Le (a b : List Ld.En) : Prop where
  len : a.length ≤ b.length
  at_ : ∀ (i : Nat) x, a[i]? = some x → ∃ y, b[i]? = some y ∧ y.what = x.what ∧ y.task = x.task ∧ y.frm = x.frm ∧ (x.to_ ≠ 0 → y = x)
theorem Ld.Le.refl (a : List Ld.En) : Ld.Le a a := ⟨Nat.le_refl _, fun i x h => ⟨x, h, rfl, rfl, rfl, fun _ => rfl⟩⟩
theorem Ld.Le.trans {a b c : List Ld.En} (h : Ld.Le a b) (k : Ld.Le b c) : Ld.Le a c := ⟨Nat.le_trans h.len k.len, fun i x hx => by
  obtain ⟨y, hy, a1, a2, a3, a4⟩ := h.at_ i x hx
  obtain ⟨z, hz, b1, b2, b3, b4⟩ := k.at_ i y hy
  refine ⟨z, hz, b1.trans a1, b2.trans a2, b3.trans a3, fun hn => ?_⟩
  have := a4 hn
  subst this
  exact b4 hn⟩
def timesE (e : Ld.En) : List Int := if e.to_ = 0 then [e.frm] else [e.frm, e.to_]
def times (l : List Ld.En) : List Int := l.flatMap timesE
def upTo (n : Nat) : List Int := (List.range n).map fun i => ((i + 1 : Nat) : Int)
theorem upTo_succ (n : Nat) : upTo (n + 1) = upTo n ++ [((n + 1 : Nat) : Int)] := by
  unfold upTo
  rw [List.range_succ, List.map_append]; rfl
theorem upTo_len (n : Nat) : (upTo n).length = n := by simp [upTo]
theorem upTo_asc (n : Nat) : (upTo n).Pairwise (· < ·) := by
  unfold upTo
  rw [List.pairwise_map]
  exact List.pairwise_lt_range.imp fun h => by omega
theorem upTo_get {n i : Nat} (h : i < n) : (upTo n)[i]? = some (((i + 1 : Nat)) : Int) := by
  unfold upTo
  rw [List.getElem?_map, List.getElem?_range h]; rfl
def Adv (t t' : Ld.T) : Prop := Ld.Le t.es t'.es ∧ ((times t.es).Perm (upTo t.time) → (times t'.es).Perm (upTo t'.time))
theorem Adv.refl (t : Ld.T) : Adv t t := ⟨Ld.Le.refl _, id⟩
theorem Adv.trans {a b c : Ld.T} (h : Adv a b) (k : Adv b c) : Adv a c := ⟨h.1.trans k.1, fun x => k.2 (h.2 x)⟩
theorem times_set : ∀ {l : List Ld.En} {i : Nat} {e e' : Ld.En}, l[i]? = some e → e.to_ = 0 → e'.frm = e.frm → e'.to_ ≠ 0 → (times (l.set i e')).Perm (times l ++ [e'.to_])
  | [], i, e, e', h, _, _, _ => by simp at h
  | x :: l, 0, e, e', h, h1, h2, h3 => by
    have hx : x = e := by simpa using h
    subst hx
    simp only [times, List.set_cons_zero, List.flatMap_cons, timesE, h1, h2, h3, if_true, if_false]
    exact List.Perm.cons _ (List.perm_append_singleton _ _).symm
  | x :: l, i + 1, e, e', h, h1, h2, h3 => by
    have := times_set (l := l) (i := i) (by simpa using h) h1 h2 h3
    simp only [times, List.set_cons_succ, List.flatMap_cons, List.append_assoc] at this ⊢
    exact List.Perm.append_left _ this
theorem Adv.add (t : Ld.T) (k : Nat) (what : Int) : Adv t (Ld.add t k what) := by
  refine ⟨⟨by simp [Ld.add], fun i x hx => ⟨x, ?_, rfl, rfl, rfl, fun _ => rfl⟩⟩, fun h => ?_⟩
  · simp only [Ld.add]
    rw [List.getElem?_append_left (List.getElem?_eq_some_iff.1 hx).1]; exact hx
  · simp only [Ld.add]
    rw [upTo_succ]
    have : times (t.es ++ [⟨what, (k : Int), ((t.time + 1 : Nat) : Int), 0, false, false⟩]) = times t.es ++ [((t.time + 1 : Nat) : Int)] := by
      simp [times, timesE]
    rw [this]
    exact List.Perm.append_right _ h
theorem Adv.rel {t : Ld.T} (h : Ld.Inv t) {k i a : Nat} (hi : (t.hs k)[i]? = some a) {f : Ld.En → Ld.En} (hf : Keeps f) : Adv t (Ld.relE (Ld.setH t k ((t.hs k).eraseIdx i)) a f) := by
  have ham := List.mem_of_getElem? hi
  obtain ⟨k1, k2, e0, he0, het, hez⟩ := (h.mem k a).1 ham
  have hal := (List.getElem?_eq_some_iff.1 he0).1
  obtain ⟨e1, he1⟩ : ∃ e1, e1 = f { e0 with to_ := ((t.time + 1 : Nat) : Int) } := ⟨_, rfl⟩
  have hE : Ld.relE (Ld.setH t k ((t.hs k).eraseIdx i)) a f = ⟨t.time + 1, t.es.set a e1, fun j => if j = k then (t.hs k).eraseIdx i else t.hs j⟩ := by
    unfold Ld.relE
    rw [show (Ld.setH t k ((t.hs k).eraseIdx i)).es[a]? = some e0 from he0]
    simp [Ld.setH, he1]
  obtain ⟨f1, f2, f3, f4⟩ := hf { e0 with to_ := ((t.time + 1 : Nat) : Int) }
  rw [← he1] at f1 f2 f3 f4
  simp only at f1 f2 f3 f4
  rw [hE]
  refine ⟨⟨by simp, fun j x hx => ?_⟩, fun hp => ?_⟩
  · by_cases hj : j = a
    · subst hj
      rw [he0] at hx
      cases hx
      exact ⟨e1, List.getElem?_set_self hal, f1, f2, f3, fun hn => absurd hez hn⟩
    · exact ⟨x, by simp only; rw [List.getElem?_set_ne (Ne.symm hj)]; exact hx, rfl, rfl, rfl, fun _ => rfl⟩
  · simp only
    rw [upTo_succ]
    refine (times_set he0 hez f3 (by rw [f4]; omega)).trans ?_
    rw [f4]
    exact List.Perm.append_right _ hp
theorem Adv.acquire (t : Ld.T) (task what : Int) : Adv t (Ld.acquire t task what).1 := by
  unfold Ld.acquire
  split
  · exact Adv.refl _
  · split
    · exact Adv.refl _
    · exact Adv.add _ _ _
theorem Adv.release {t : Ld.T} (h : Ld.Inv t) (task what : Int) : Adv t (Ld.release t task what).1 := by
  unfold Ld.release
  split
  · exact Adv.refl _
  · split
    · exact Adv.refl _
    · rename_i i hi
      have hl := lastAt_lt hi
      exact Adv.rel h (by rw [List.getElem?_eq_getElem hl, List.getD_eq_getElem?_getD, List.getElem?_eq_getElem hl]; rfl) (keeps_crs _)
theorem Adv.drain {k : Nat} : ∀ (r : List Nat) {t : Ld.T}, Ld.Inv t → t.hs k = r.reverse → Adv t (Ld.drain k r t).1
  | [], t, h, _ => Adv.refl _
  | a :: r, t, h, hr => by
    rw [drain_cons]
    have hi : (t.hs k)[r.reverse.length]? = some a := by rw [hr]; simp
    have he : (t.hs k).eraseIdx r.reverse.length = r.reverse := by rw [hr, List.reverse_cons]; exact erase_last _ _
    have h2 := h.rel hi keeps_leak
    have h3 := Adv.rel h hi keeps_leak
    rw [he] at h2 h3
    exact h3.trans (Adv.drain r h2 (by rw [relE_hs]; simp [Ld.setH]))
theorem Adv.end_ {t : Ld.T} (h : Ld.Inv t) (task : Int) : Adv t (Ld.end_ t task).1 := by
  unfold Ld.end_
  split
  · exact Adv.refl _
  · exact Adv.drain _ h (by simp)
theorem Adv.step {t : Ld.T} (h : Ld.Inv t) (o : Op) : Adv t (Ld.step t o) := by
  unfold Ld.step
  split
  · exact Adv.acquire _ _ _
  · split
    · exact Adv.release h _ _
    · split
      · exact Adv.end_ h _
      · exact Adv.refl _
end Go.Proofs.Ytapbghkoijmjeaa
