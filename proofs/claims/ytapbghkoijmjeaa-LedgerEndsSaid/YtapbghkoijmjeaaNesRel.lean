/- Ledgers whose tasks release what they acquired last. -/
import Derived.Test.YtapbghkoijmjeaaShelfU
namespace Go.Proofs.Ytapbghkoijmjeaa
set_option linter.unusedVariables false
set_option linter.unusedSimpArgs false
open Go.RowKit Go.Shelf
structure Nst (t : Ld.T) : Prop where
  inv : Ld.Inv t
  cln : ∀ (i : Nat) e, t.es[i]? = some e → e.cr = false ∧ e.lk = false
theorem nst0 : Nst Ld.new := ⟨inv0, by simp [Ld.new]⟩
theorem Nst.acquire {t : Ld.T} (h : Nst t) (task what : Int) : Nst (Ld.acquire t task what).1 := by
  refine ⟨h.inv.acquire task what, ?_⟩
  unfold Ld.acquire
  split
  · exact h.cln
  · split
    · exact h.cln
    · intro i e he
      simp only [Ld.add] at he
      by_cases hi : i < t.es.length
      · rw [List.getElem?_append_left hi] at he; exact h.cln i e he
      · rw [List.getElem?_append_right (by omega)] at he
        cases hd : i - t.es.length with
        | zero => rw [hd] at he; simp at he; rw [← he]; exact ⟨rfl, rfl⟩
        | succ n => rw [hd] at he; simp at he
/-- The ledger behind a task's release of what it acquired last. -/
def Ld.pop (t : Ld.T) (k : Nat) (l : List Nat) (a : Nat) : Ld.T := Ld.relE (Ld.setH t k l) a (Ld.crs false)
theorem pop_release {t : Ld.T} {k a : Nat} {l : List Nat} (h : Nst t) (k1 : 1 ≤ k) (k2 : k ≤ 64) (hs : t.hs k = l ++ [a]) (hw : Ld.isWhat (Ld.whatOf t a) = true) : Ld.release t (k : Int) (Ld.whatOf t a) = (Ld.pop t k l a, 0) := by
  have ham : a ∈ t.hs k := by rw [hs]; simp
  have hal := h.inv.ok.lt k a ham
  have hf : Ld.fits t (Ld.whatOf t a) a = true := by
    unfold Ld.fits Ld.whatOf
    rw [List.getElem?_eq_getElem hal]
    simp
  unfold Ld.release
  rw [if_neg (by rw [hw]; unfold Ld.knows; simp; omega), show ((k : Int)).toNat = k by omega]
  have hl : Ld.lastAt (Ld.fits t (Ld.whatOf t a)) (t.hs k) = some l.length := by
    rw [hs]
    exact lastAt_some (a := a) (by simp) hf fun j b hj hb => by
      have := (List.getElem?_eq_some_iff.1 hb).1
      simp at this; omega
  rw [hl]
  simp only
  have e1 : (t.hs k).eraseIdx l.length = l := by rw [hs]; exact erase_last l a
  have e2 : (t.hs k).getD l.length 0 = a := by rw [hs]; simp
  have e3 : decide (l.length + 1 < (t.hs k).length) = false := by rw [hs]; simp
  rw [e1, e2, e3]
  rfl
theorem Nst.pop {t : Ld.T} {k a : Nat} {l : List Nat} (h : Nst t) (hs : t.hs k = l ++ [a]) : Nst (Ld.pop t k l a) := by
  have hi : (t.hs k)[l.length]? = some a := by rw [hs]; simp
  have e1 : (t.hs k).eraseIdx l.length = l := by rw [hs]; exact erase_last l a
  have h2 := h.inv.rel hi (keeps_crs false)
  rw [e1] at h2
  refine ⟨h2, fun i e he => ?_⟩
  unfold Ld.pop Ld.relE at he
  split at he
  · exact h.cln i e he
  · rename_i e0 he0
    simp only at he
    by_cases hia : i = a
    · subst hia
      have hal : i < t.es.length := (List.getElem?_eq_some_iff.1 he0).1
      have he' : (t.es.set i (Ld.crs false { e0 with to_ := (((Ld.setH t k l).time + 1 : Nat) : Int) }))[i]? = some e := he
      rw [List.getElem?_set_self hal] at he'
      rw [← Option.some.inj he']
      exact ⟨rfl, (h.cln i e0 he0).2⟩
    · have he' : (t.es.set a (Ld.crs false { e0 with to_ := (((Ld.setH t k l).time + 1 : Nat) : Int) }))[i]? = some e := he
      rw [List.getElem?_set_ne (Ne.symm hia)] at he'
      exact h.cln i e he'
theorem pop_hs (t : Ld.T) (k : Nat) (l : List Nat) (a : Nat) : (Ld.pop t k l a).hs = fun j => if j = k then l else t.hs j := by
  unfold Ld.pop
  rw [relE_hs]; rfl
theorem pop_len (t : Ld.T) (k : Nat) (l : List Nat) (a : Nat) : (Ld.pop t k l a).es.length = t.es.length := by
  unfold Ld.pop
  rw [relE_es]; rfl
theorem pop_what (t : Ld.T) (k : Nat) (l : List Nat) (a b : Nat) : Ld.whatOf (Ld.pop t k l a) b = Ld.whatOf t b := by
  unfold Ld.pop Ld.relE
  split
  · rfl
  · rename_i e0 he0
    have he0' : t.es[a]? = some e0 := he0
    unfold Ld.whatOf
    show (match (t.es.set a _)[b]? with | some e => e.what | none => 0) = _
    by_cases hb : b = a
    · subst hb
      rw [List.getElem?_set_self (List.getElem?_eq_some_iff.1 he0').1, he0']
      rfl
    · rw [List.getElem?_set_ne (Ne.symm hb)]
      rfl
theorem which_nil_of {p : Ld.En → Bool} {l : List Ld.En} (h : ∀ (i : Nat) e, l[i]? = some e → p e = false) : Ld.which p l = [] := by
  unfold Ld.which
  rw [List.filter_eq_nil_iff]
  intro i hi
  rw [List.mem_range] at hi
  unfold Ld.hit
  rw [List.getElem?_eq_getElem hi]
  simp [h i _ (List.getElem?_eq_getElem hi)]
theorem which_ne_of {p : Ld.En → Bool} {l : List Ld.En} {i : Nat} {e : Ld.En} (h : l[i]? = some e) (hp : p e = true) : 0 < (Ld.which p l).length := by
  have hi := (List.getElem?_eq_some_iff.1 h).1
  refine List.length_pos_iff.2 fun hn => ?_
  have : i ∈ Ld.which p l := by
    unfold Ld.which
    rw [List.mem_filter, List.mem_range]
    exact ⟨hi, by unfold Ld.hit; rw [h]; exact hp⟩
  rw [hn] at this
  simp at this
theorem Nst.unsound {t : Ld.T} (h : Nst t) {k a : Nat} (ha : a ∈ t.hs k) : Ld.sound t = false := by
  obtain ⟨_, _, e, he, _, hz⟩ := (h.inv.mem k a).1 ha
  have := which_ne_of (p := Ld.unsound) he (by simp [Ld.unsound, hz])
  unfold Ld.sound
  cases hl : (Ld.which Ld.unsound t.es).length with
  | zero => omega
  | succ n => rfl
theorem Nst.sound {t : Ld.T} (h : Nst t) (hs : ∀ k, 1 ≤ k → k ≤ 64 → t.hs k = []) : Ld.sound t = true := by
  have : Ld.which Ld.unsound t.es = [] := which_nil_of fun i e he => by
    obtain ⟨c1, c2⟩ := h.cln i e he
    unfold Ld.unsound
    rw [c1, c2]
    have : e.to_ ≠ 0 := fun hz => by
      obtain ⟨k, hk⟩ := h.inv.opn i e he hz
      obtain ⟨k1, k2, _⟩ := (h.inv.mem k i).1 hk
      rw [hs k k1 k2] at hk
      simp at hk
    simp [this]
  unfold Ld.sound
  rw [this]; rfl
theorem Nst.crossed {t : Ld.T} (h : Nst t) : Ld.which (fun e => e.cr) t.es = [] := which_nil_of fun i e he => (h.cln i e he).1
theorem Nst.leaks {t : Ld.T} (h : Nst t) : Ld.which (fun e => e.lk) t.es = [] := which_nil_of fun i e he => (h.cln i e he).2
/-- Resources of entries are numbers of resources. -/
def Wok (t : Ld.T) : Prop := ∀ (i : Nat) e, t.es[i]? = some e → Ld.isWhat e.what = true
theorem wok0 : Wok Ld.new := by intro i e he; simp [Ld.new] at he
theorem Wok.acquire {t : Ld.T} (h : Wok t) (task what : Int) : Wok (Ld.acquire t task what).1 := by
  unfold Ld.acquire
  split
  · exact h
  · rename_i hb
    have hb' : Ld.knows task = true ∧ Ld.isWhat what = true := by simpa using hb
    split
    · exact h
    · intro i e he
      simp only [Ld.add] at he
      by_cases hi : i < t.es.length
      · rw [List.getElem?_append_left hi] at he; exact h i e he
      · rw [List.getElem?_append_right (by omega)] at he
        cases hd : i - t.es.length with
        | zero => rw [hd] at he; simp at he; rw [← he]; exact hb'.2
        | succ n => rw [hd] at he; simp at he
theorem Wok.pop {t : Ld.T} (h : Wok t) (k : Nat) (l : List Nat) (a : Nat) : Wok (Ld.pop t k l a) := by
  intro i e he
  have h2 := pop_what t k l a i
  unfold Ld.whatOf at h2
  rw [he] at h2
  have hi : i < t.es.length := by rw [← pop_len t k l a]; exact (List.getElem?_eq_some_iff.1 he).1
  rw [List.getElem?_eq_getElem hi] at h2
  simp only at h2
  rw [h2]
  exact h i _ (List.getElem?_eq_getElem hi)
theorem Wok.of {t : Ld.T} (h : Wok t) {a : Nat} (ha : a < t.es.length) : Ld.isWhat (Ld.whatOf t a) = true := by
  unfold Ld.whatOf
  rw [List.getElem?_eq_getElem ha]
  exact h a _ (List.getElem?_eq_getElem ha)
end Go.Proofs.Ytapbghkoijmjeaa
