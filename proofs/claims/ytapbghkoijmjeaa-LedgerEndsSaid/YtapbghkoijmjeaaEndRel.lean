/- What the end of a task leaves. -/
import Derived.Test.YtapbghkoijmjeaaNesRel
import Derived.Test.YtapbghkoijmjeaaCrossRel
namespace Go.Proofs.Ytapbghkoijmjeaa
set_option linter.unusedVariables false
set_option linter.unusedSimpArgs false
open Go.RowKit Go.Shelf
theorem relE_what {t : Ld.T} (k : Nat) (l : List Nat) (a : Nat) {f : Ld.En → Ld.En} (hf : Keeps f) (b : Nat) : Ld.whatOf (Ld.relE (Ld.setH t k l) a f) b = Ld.whatOf t b := by
  unfold Ld.relE
  split
  · rfl
  · rename_i e0 he0
    have he0' : t.es[a]? = some e0 := he0
    unfold Ld.whatOf
    show (match (t.es.set a _)[b]? with | some e => e.what | none => 0) = _
    by_cases hb : b = a
    · subst hb
      rw [List.getElem?_set_self (List.getElem?_eq_some_iff.1 he0').1, he0']
      exact (hf _).1
    · rw [List.getElem?_set_ne (Ne.symm hb)]
      rfl
theorem which_count (p : Ld.En → Bool) (l : List Ld.En) : (Ld.which p l).length = l.countP p := by
  have key : ∀ k, k ≤ l.length → (Ld.which p (l.take k)).length = (l.take k).countP p := by
    intro k
    induction k with
    | zero => intro _; simp [Ld.which]
    | succ k ih =>
      intro hk
      have hx : l[k]? = some (l[k]'(by omega)) := List.getElem?_eq_getElem (by omega)
      rw [which_take p l hx, take_snoc' hx, List.length_append, List.countP_append, ih (by omega)]
      congr 1
      split <;> simp_all
  have := key l.length (Nat.le_refl _)
  rwa [List.take_length] at this
theorem cnt_set (p : Ld.En → Bool) : ∀ {l : List Ld.En} {i : Nat} {e e' : Ld.En}, l[i]? = some e → p e = false → p e' = true → (l.set i e').countP p = l.countP p + 1
  | [], i, e, e', h, _, _ => by simp at h
  | x :: l, 0, e, e', h, h1, h2 => by
    have hx : x = e := by simpa using h
    subst hx
    simp [List.countP_cons, h1, h2]
  | x :: l, i + 1, e, e', h, h1, h2 => by
    have := cnt_set p (l := l) (i := i) (by simpa using h) h1 h2
    simp only [List.set_cons_succ, List.countP_cons] at this ⊢
    omega
def Lc (t : Ld.T) : Prop := ∀ (i : Nat) e, t.es[i]? = some e → ¬ (e.lk = true ∧ e.cr = true)
theorem relE_form {t : Ld.T} (h : Ld.Inv t) {k i a : Nat} (hi : (t.hs k)[i]? = some a) (l : List Nat) (f : Ld.En → Ld.En) : ∃ e0, t.es[a]? = some e0 ∧ e0.cr = false ∧ e0.lk = false ∧ (Ld.relE (Ld.setH t k l) a f).es = t.es.set a (f { e0 with to_ := ((t.time + 1 : Nat) : Int) }) := by
  obtain ⟨k1, k2, e0, he0, het, hez⟩ := (h.mem k a).1 (List.mem_of_getElem? hi)
  obtain ⟨f1, f2⟩ := h.fls a e0 he0 hez
  refine ⟨e0, he0, f1, f2, ?_⟩
  unfold Ld.relE
  rw [show (Ld.setH t k l).es[a]? = some e0 from he0]
  simp [Ld.setH]
theorem Lc.rel {t : Ld.T} (hc : Lc t) (h : Ld.Inv t) {k i a : Nat} (hi : (t.hs k)[i]? = some a) (l : List Nat) {f : Ld.En → Ld.En} (hf : ∀ e, e.cr = false → e.lk = false → ¬ ((f e).lk = true ∧ (f e).cr = true)) : Lc (Ld.relE (Ld.setH t k l) a f) := by
  obtain ⟨e0, he0, f1, f2, hE⟩ := relE_form h hi l f
  intro j e he
  rw [hE] at he
  by_cases hj : j = a
  · subst hj
    rw [List.getElem?_set_self (List.getElem?_eq_some_iff.1 he0).1] at he
    rw [← Option.some.inj he]
    exact hf _ f1 f2
  · rw [List.getElem?_set_ne (Ne.symm hj)] at he
    exact hc j e he
theorem Lc.drain {k : Nat} : ∀ (r : List Nat) {t : Ld.T}, Ld.Inv t → Lc t → t.hs k = r.reverse → Lc (Ld.drain k r t).1
  | [], t, h, hc, _ => hc
  | a :: r, t, h, hc, hr => by
    rw [drain_cons]
    have hi : (t.hs k)[r.reverse.length]? = some a := by rw [hr]; simp
    have he : (t.hs k).eraseIdx r.reverse.length = r.reverse := by rw [hr, List.reverse_cons]; exact erase_last _ _
    have h2 := h.rel hi keeps_leak
    rw [he] at h2
    exact Lc.drain r h2 (hc.rel h hi _ (fun e h1 h2 => by simp [Ld.leak, h1])) (by rw [relE_hs]; simp [Ld.setH])
theorem Lc.step {t : Ld.T} (hc : Lc t) (h : Ld.Inv t) (o : Op) : Lc (Ld.step t o) := by
  unfold Ld.step
  split
  · unfold Ld.acquire
    split
    · exact hc
    · split
      · exact hc
      · intro i e he
        simp only [Ld.add] at he
        by_cases hi : i < t.es.length
        · rw [List.getElem?_append_left hi] at he; exact hc i e he
        · rw [List.getElem?_append_right (by omega)] at he
          cases hd : i - t.es.length with
          | zero => rw [hd] at he; simp at he; rw [← he]; simp
          | succ n => rw [hd] at he; simp at he
  · split
    · unfold Ld.release
      split
      · exact hc
      · split
        · exact hc
        · rename_i i hi
          have hl := lastAt_lt hi
          exact hc.rel h (by rw [List.getElem?_eq_getElem hl, List.getD_eq_getElem?_getD, List.getElem?_eq_getElem hl]; rfl) _ (fun e h1 h2 => by simp [Ld.crs, h2])
    · split
      · unfold Ld.end_
        split
        · exact hc
        · exact Lc.drain _ h hc (by simp)
      · exact hc
structure Dr (k : Nat) (r : List Nat) (t : Ld.T) : Prop where
  out : (Ld.drain k r t).2 = r.map (Ld.whatOf t)
  hs : (Ld.drain k r t).1.hs = fun j => if j = k then [] else t.hs j
  what : ∀ b, Ld.whatOf (Ld.drain k r t).1 b = Ld.whatOf t b
  lk : (Ld.which (fun e => e.lk) (Ld.drain k r t).1.es).length = (Ld.which (fun e => e.lk) t.es).length + r.length
theorem dr {k : Nat} : ∀ (r : List Nat) {t : Ld.T}, Ld.Inv t → t.hs k = r.reverse → Dr k r t
  | [], t, h, hr => ⟨rfl, (by funext j; show t.hs j = _; by_cases hj : j = k <;> simp_all), fun _ => rfl, rfl⟩
  | a :: r, t, h, hr => by
    have hi : (t.hs k)[r.reverse.length]? = some a := by rw [hr]; simp
    have he : (t.hs k).eraseIdx r.reverse.length = r.reverse := by rw [hr, List.reverse_cons]; exact erase_last _ _
    have h2 := h.rel hi keeps_leak
    rw [he] at h2
    have h3 := dr (k := k) r h2 (by rw [relE_hs]; simp [Ld.setH])
    have hw : Ld.whatOf (Ld.relE (Ld.setH t k r.reverse) a Ld.leak) = Ld.whatOf t := funext (relE_what k _ a keeps_leak)
    obtain ⟨e0, he0, f1, f2, hE⟩ := relE_form h hi r.reverse Ld.leak
    refine ⟨?_, ?_, fun b => ?_, ?_⟩
    · show _ :: _ = _
      rw [h3.out, hw]; rfl
    · rw [drain_cons, h3.hs, relE_hs]
      funext j
      by_cases hj : j = k
      · simp [hj]
      · simp [hj, Ld.setH]
    · rw [drain_cons, h3.what, hw]
    · rw [drain_cons, h3.lk, which_count, which_count, hE, cnt_set (fun e => e.lk) he0 f2 (by simp [Ld.leak])]
      simp; omega
end Go.Proofs.Ytapbghkoijmjeaa
