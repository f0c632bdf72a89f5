/- An entry is crossed just if its task held something that it had acquired later. -/
import Derived.Test.YtapbghkoijmjeaaInv
namespace Go.Proofs.Ytapbghkoijmjeaa
set_option linter.unusedVariables false
set_option linter.unusedSimpArgs false
open Go.RowKit Go.Shelf
def same4 (a b : Ld.En) : Bool := decide (a.what = b.what) && decide (a.task = b.task) && decide (a.frm = b.frm) && decide (a.to_ = b.to_)
def later (x : Ld.En) (l : List Ld.En) : Bool := l.any fun y => decide (y.task = x.task) && decide (y.to_ = 0)
def hitN (es es2 : List Ld.En) (i : Nat) : Bool := match es[i]?, es2[i]? with | some y, some x => !same4 y x && later x (es.drop (i + 1)) | _, _ => false
def newC (es es2 : List Ld.En) (n : Nat) : List Nat := (List.range n).filter (hitN es es2)
theorem newC_succ (es es2 : List Ld.En) (n : Nat) : newC es es2 (n + 1) = newC es es2 n ++ if hitN es es2 n then [n] else [] := by
  unfold newC
  rw [List.range_succ, List.filter_append, List.filter_cons]
  simp
theorem same4_self (x : Ld.En) : same4 x x = true := by simp [same4]
theorem hitN_self (es : List Ld.En) (i : Nat) : hitN es es i = false := by
  unfold hitN
  cases es[i]? with
  | none => rfl
  | some y => simp [same4_self]
def IsCr (es : List Ld.En) (i : Nat) : Prop := ∃ e, es[i]? = some e ∧ e.cr = true
theorem mem_cr (es : List Ld.En) (i : Nat) : i ∈ Ld.which (fun e => e.cr) es ↔ IsCr es i := by
  unfold Ld.which IsCr
  rw [List.mem_filter, List.mem_range]
  unfold Ld.hit
  constructor
  · rintro ⟨h1, h2⟩
    rw [List.getElem?_eq_getElem h1] at h2
    exact ⟨_, List.getElem?_eq_getElem h1, h2⟩
  · rintro ⟨e, h1, h2⟩
    refine ⟨(List.getElem?_eq_some_iff.1 h1).1, ?_⟩
    rw [h1]; exact h2
theorem nodup_which (p : Ld.En → Bool) (es : List Ld.En) : (Ld.which p es).Nodup := List.nodup_range.filter _
theorem asc_which (p : Ld.En → Bool) (es : List Ld.En) : (Ld.which p es).Pairwise (· < ·) := List.pairwise_lt_range.filter _
theorem perm_cr {es es2 : List Ld.En} (h : ∀ i, IsCr es i ↔ IsCr es2 i) : (Ld.which (fun e => e.cr) es).Perm (Ld.which (fun e => e.cr) es2) :=
  (List.perm_ext_iff_of_nodup (nodup_which _ _) (nodup_which _ _)).2 fun i => by rw [mem_cr, mem_cr]; exact h i
theorem perm_new {es es2 : List Ld.En} (h : ∀ i, IsCr es2 i ↔ IsCr es i ∨ hitN es es2 i = true) (hd : ∀ i, hitN es es2 i = true → ¬ IsCr es i) (hl : es2.length = es.length) : (Ld.which (fun e => e.cr) es ++ newC es es2 es2.length).Perm (Ld.which (fun e => e.cr) es2) := by
  refine (List.perm_ext_iff_of_nodup (List.nodup_append.2 ⟨nodup_which _ _, List.nodup_range.filter _, ?_⟩) (nodup_which _ _)).2 fun i => ?_
  · intro a ha b hb hab
    subst hab
    exact hd a (List.mem_filter.1 hb).2 ((mem_cr _ _).1 ha)
  · rw [List.mem_append, mem_cr, mem_cr, h i]
    rw [List.mem_filter, List.mem_range]
    constructor
    · rintro (h1 | h1)
      · exact .inl h1
      · exact .inr h1.2
    · rintro (h1 | h1)
      · exact .inl h1
      · refine .inr ⟨?_, h1⟩
        unfold hitN at h1
        rw [hl]
        cases he : es[i]? with
        | none => rw [he] at h1; simp at h1
        | some y => exact (List.getElem?_eq_some_iff.1 he).1
theorem cr_add (t : Ld.T) (k : Nat) (what : Int) (i : Nat) : IsCr t.es i ↔ IsCr (Ld.add t k what).es i := by
  unfold IsCr
  simp only [Ld.add]
  constructor
  · rintro ⟨e, h1, h2⟩
    exact ⟨e, by rw [List.getElem?_append_left (List.getElem?_eq_some_iff.1 h1).1]; exact h1, h2⟩
  · rintro ⟨e, h1, h2⟩
    by_cases hi : i < t.es.length
    · rw [List.getElem?_append_left hi] at h1; exact ⟨e, h1, h2⟩
    · rw [List.getElem?_append_right (by omega)] at h1
      cases hd : i - t.es.length with
      | zero => rw [hd] at h1; simp at h1; rw [← h1] at h2; simp at h2
      | succ n => rw [hd] at h1; simp at h1
theorem cr_leak (t : Ld.T) (k : Nat) (l : List Nat) (a : Nat) (i : Nat) : IsCr t.es i ↔ IsCr (Ld.relE (Ld.setH t k l) a Ld.leak).es i := by
  unfold Ld.relE
  split
  · exact Iff.rfl
  · rename_i e0 he0
    have he0' : t.es[a]? = some e0 := he0
    unfold IsCr
    show _ ↔ ∃ e, (t.es.set a _)[i]? = some e ∧ _
    by_cases hi : i = a
    · subst hi
      rw [List.getElem?_set_self (List.getElem?_eq_some_iff.1 he0').1, he0']
      simp [Ld.leak]
    · rw [List.getElem?_set_ne (Ne.symm hi)]
theorem cr_drain {k : Nat} : ∀ (r : List Nat) (t : Ld.T) (i : Nat), IsCr t.es i ↔ IsCr (Ld.drain k r t).1.es i
  | [], t, i => Iff.rfl
  | a :: r, t, i => by
    rw [drain_cons]
    exact (cr_leak t k r.reverse a i).trans (cr_drain r _ i)
theorem cr_keep (t : Ld.T) (o : Op) (ho : o.kd ≠ 1) (i : Nat) : IsCr t.es i ↔ IsCr (Ld.step t o).es i := by
  unfold Ld.step
  split
  · unfold Ld.acquire
    split
    · exact Iff.rfl
    · split
      · exact Iff.rfl
      · exact cr_add _ _ _ _
  · split
    · unfold Ld.end_
      split
      · exact Iff.rfl
      · exact cr_drain _ _ _
    · exact Iff.rfl
theorem later_iff {t : Ld.T} (h : Ld.Inv t) {k idx a : Nat} {x e0 : Ld.En} (hi : (t.hs k)[idx]? = some a) (he0 : t.es[a]? = some e0) (hx : x.task = (k : Int)) : later x (t.es.drop (a + 1)) = decide (idx + 1 < (t.hs k).length) := by
  have hil := (List.getElem?_eq_some_iff.1 hi).1
  have hav := (List.getElem?_eq_some_iff.1 hi).2
  rw [Bool.eq_iff_iff]
  unfold later
  rw [List.any_eq_true, decide_eq_true_iff]
  constructor
  · rintro ⟨y, hy, hp⟩
    simp only [Bool.and_eq_true, decide_eq_true_eq] at hp
    obtain ⟨j, hj, hje⟩ := List.mem_iff_getElem.1 hy
    rw [List.getElem_drop] at hje
    have hjl : a + 1 + j < t.es.length := by rw [List.length_drop] at hj; omega
    have hk := (h.mem k a).1 (List.mem_of_getElem? hi)
    have hb : a + 1 + j ∈ t.hs k := (h.mem k _).2 ⟨hk.1, hk.2.1, y, by rw [List.getElem?_eq_getElem hjl, hje], hp.1.trans hx, hp.2⟩
    obtain ⟨z, hz, hze⟩ := List.mem_iff_getElem.1 hb
    have : idx < z := by
      rcases Nat.lt_trichotomy idx z with h1 | h1 | h1
      · exact h1
      · subst h1; omega
      · have := List.pairwise_iff_getElem.1 (h.asc k) z idx hz hil h1; omega
    omega
  · intro hl
    have hgt := List.pairwise_iff_getElem.1 (h.asc k) idx (idx + 1) hil hl (by omega)
    obtain ⟨b, hb⟩ : ∃ b, b = (t.hs k)[idx + 1] := ⟨_, rfl⟩
    obtain ⟨_, _, y, hy, hy1, hy2⟩ := (h.mem k b).1 (by rw [hb]; exact List.getElem_mem _)
    rw [← hb, hav] at hgt
    refine ⟨y, ?_, by simp [hy1, hy2, hx]⟩
    obtain ⟨hbl, hbe⟩ := List.getElem?_eq_some_iff.1 hy
    exact List.mem_iff_getElem.2 ⟨b - (a + 1), by rw [List.length_drop]; omega, by rw [List.getElem_drop]; rw [← hbe]; congr 1; omega⟩
theorem release_new {t : Ld.T} (h : Ld.Inv t) (task what : Int) : (∀ i, IsCr (Ld.release t task what).1.es i ↔ IsCr t.es i ∨ hitN t.es (Ld.release t task what).1.es i = true) ∧ (∀ i, hitN t.es (Ld.release t task what).1.es i = true → ¬ IsCr t.es i) ∧ (Ld.release t task what).1.es.length = t.es.length := by
  have self : (∀ i, IsCr t.es i ↔ IsCr t.es i ∨ hitN t.es t.es i = true) ∧ (∀ i, hitN t.es t.es i = true → ¬ IsCr t.es i) ∧ t.es.length = t.es.length :=
    ⟨fun i => by rw [hitN_self]; simp, fun i hi => (by rw [hitN_self] at hi; cases hi), rfl⟩
  unfold Ld.release
  split
  · exact self
  · split
    · exact self
    · rename_i idx hidx
      have hl := lastAt_lt hidx
      obtain ⟨k, hk⟩ : ∃ k, k = task.toNat := ⟨_, rfl⟩
      rw [← hk] at hl ⊢
      obtain ⟨a, ha⟩ : ∃ a, a = (t.hs k).getD idx 0 := ⟨_, rfl⟩
      have hi : (t.hs k)[idx]? = some a := by rw [ha, List.getElem?_eq_getElem hl, List.getD_eq_getElem?_getD, List.getElem?_eq_getElem hl]; rfl
      rw [← ha]
      obtain ⟨k1, k2, e0, he0, het, hez⟩ := (h.mem k a).1 (List.mem_of_getElem? hi)
      have hal := (List.getElem?_eq_some_iff.1 he0).1
      obtain ⟨e1, he1⟩ : ∃ e1, e1 = Ld.crs (decide (idx + 1 < (t.hs k).length)) { e0 with to_ := ((t.time + 1 : Nat) : Int) } := ⟨_, rfl⟩
      have hE : (Ld.relE (Ld.setH t k ((t.hs k).eraseIdx idx)) a (Ld.crs (decide (idx + 1 < (t.hs k).length)))).es = t.es.set a e1 := by
        unfold Ld.relE
        rw [show (Ld.setH t k ((t.hs k).eraseIdx idx)).es[a]? = some e0 from he0]
        simp [Ld.setH, he1]
      rw [hE]
      have hcr0 := (h.fls a e0 he0 hez).1
      have hlt : later e1 (t.es.drop (a + 1)) = decide (idx + 1 < (t.hs k).length) := later_iff h hi he0 (by rw [he1]; exact het)
      have hs4 : same4 e0 e1 = false := by
        have : decide (e0.to_ = e1.to_) = false := by rw [he1]; simp [Ld.crs, hez]; omega
        unfold same4
        rw [this, Bool.and_false]
      have hat : ∀ i, hitN t.es (t.es.set a e1) i = true ↔ i = a ∧ idx + 1 < (t.hs k).length := fun i => by
        by_cases hia : i = a
        · subst hia
          unfold hitN
          rw [he0, List.getElem?_set_self hal]
          simp [hs4, hlt]
        · have h1 : hitN t.es (t.es.set a e1) i = hitN t.es t.es i := by
            unfold hitN
            rw [List.getElem?_set_ne (Ne.symm hia)]
          rw [h1, hitN_self]
          simp [hia]
      refine ⟨fun i => ?_, fun i hh => ?_, by simp⟩
      · rw [hat]
        unfold IsCr
        by_cases hia : i = a
        · subst hia
          rw [List.getElem?_set_self hal, he0]
          constructor
          · rintro ⟨e, h1, h2⟩
            cases h1
            rw [he1] at h2
            simp [Ld.crs] at h2
            exact .inr ⟨rfl, h2⟩
          · rintro (⟨e, h1, h2⟩ | ⟨_, h2⟩)
            · cases h1; rw [hcr0] at h2; cases h2
            · exact ⟨e1, rfl, by rw [he1]; simp [Ld.crs, h2]⟩
        · rw [List.getElem?_set_ne (Ne.symm hia)]
          simp [hia]
      · rw [hat] at hh
        obtain ⟨rfl, _⟩ := hh
        rintro ⟨e, h1, h2⟩
        rw [he0] at h1
        cases h1
        rw [hcr0] at h2; cases h2
end Go.Proofs.Ytapbghkoijmjeaa
