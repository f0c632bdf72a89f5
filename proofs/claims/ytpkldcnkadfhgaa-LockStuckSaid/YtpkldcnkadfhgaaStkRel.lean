/- LockStuck: what the loops keep. -/
import Derived.Test.YtpkldcnkadfhgaaSorted
namespace Go.Proofs.Ytpkldcnkadfhgaa
open Go.RowKit
namespace Lk
theorem stuck_asc {t : T} (h : TOk t) : (stuck t).Pairwise (· < ·) := by
  unfold stuck
  rw [List.pairwise_map]
  exact (stuckFold_ok _ t h (holders_p h)).asc
theorem stuck_p {t : T} (h : TOk t) : ∀ p ∈ stuck t, isP p := by
  intro p hp
  unfold stuck at hp
  obtain ⟨q, hq, rfl⟩ := List.mem_map.1 hp
  exact ((stuckFold_ok _ t h (holders_p h)).waits_ps q hq).1
/-- Some are withdrawn. -/
structure Wd (t' : T) (S1 : List Int) (j : Nat) (t'' : T) : Prop where
  back : ∀ S : Int → Prop, Knot t'' S → Knot t' S
  has : ∀ k, khas t''.waits k = true ↔ khas t'.waits k = true ∧ k ∉ S1.take j
theorem Wd.start (t : T) (S1 : List Int) : Wd t S1 0 t := ⟨fun _ h => h, fun k => by simp⟩
theorem Wd.step {t' t'' : T} {S1 : List Int} {j i : Nat} {x : Int} {l : L} (h : Wd t' S1 j t'') (hx : S1[j]? = some x) (hl : t''.ls[i]? = some l) : Wd t' S1 (j + 1) (withdraw t'' i l x) := by
  refine ⟨fun S hk => h.back S fun p hp => ?_, fun k => ?_⟩
  · obtain ⟨m, l', h1, h2, h3⟩ := hk p hp
    by_cases hm : m = i
    · subst hm
      unfold withdraw at h1
      simp only [set_eq hl] at h1
      cases h1
      exact ⟨m, l, hl, List.mem_of_mem_erase h2, h3⟩
    · unfold withdraw at h1
      simp only [set_ne hm] at h1
      exact ⟨m, l', h1, h2, h3⟩
  · unfold withdraw
    simp only [khas_del, Bool.and_eq_true, Bool.not_eq_true', decide_eq_false_iff_not, h.has k]
    rw [List.take_add_one, hx]
    simp only [List.mem_append, Option.toList, List.mem_singleton]
    constructor
    · rintro ⟨a, b, c⟩
      exact ⟨b, fun hh => hh.elim c a⟩
    · rintro ⟨b, c⟩
      exact ⟨fun e => c (.inr e), b, fun hh => c (.inl hh)⟩
theorem Wd.waits {t' t'' : T} {j : Nat} {x : Int} (h : Wd t' (stuck t') j t'') (ht : TOk t') (hx : (stuck t')[j]? = some x) : khas t''.waits x = true := by
  refine (h.has x).2 ⟨(stuck_knot ht).waits ht (List.mem_of_getElem? hx), fun hm => ?_⟩
  obtain ⟨i, hi, e⟩ := List.getElem_of_mem hm
  have hij : i < j := by simp at hi; omega
  have hjl := (List.getElem?_eq_some_iff.1 hx).1
  have hxe := (List.getElem?_eq_some_iff.1 hx).2
  have := List.pairwise_iff_getElem.1 (stuck_asc ht) i j (by omega) hjl hij
  rw [List.getElem_take] at e
  omega
theorem Wd.fin {t' t'' : T} (h : Wd t' (stuck t') (stuck t').length t'') (ht : TOk t') (ht' : TOk t'') : stuck t'' = [] := by
  apply List.eq_nil_iff_forall_not_mem.2
  intro x hx
  have hk := stuck_knot ht'
  have h1 := (h.back _ hk).stuck ht hx
  have h2 := (h.has x).1 (hk.waits ht' hx)
  rw [List.take_length] at h2
  exact h2.2 h1
end Lk
end Go.Proofs.Ytpkldcnkadfhgaa
