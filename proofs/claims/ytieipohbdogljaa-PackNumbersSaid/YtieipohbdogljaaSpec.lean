/- Sums and numbers as bytes, as plain data. -/
import Derived.Test.YtieipohbdogljaaBase
namespace Go.Proofs.Ytieipohbdogljaa
set_option linter.unusedVariables false
set_option linter.unusedSimpArgs false
namespace Pk
def smStep (s : Nat × Nat) (c : UInt8) : Nat × Nat := ((s.1 + c.toNat) % 65521, (s.2 + (s.1 + c.toNat) % 65521) % 65521)
def sm (l : List UInt8) : Nat × Nat := l.foldl smStep (1, 0)
def sumV (l : List UInt8) : Nat := (sm l).2 * 65536 + (sm l).1
theorem sm_snoc (l : List UInt8) (c : UInt8) : sm (l ++ [c]) = smStep (sm l) c := by simp [sm]
theorem step_lt (s : Nat × Nat) (c : UInt8) : (smStep s c).1 < 65521 ∧ (smStep s c).2 < 65521 := ⟨Nat.mod_lt _ (by omega), Nat.mod_lt _ (by omega)⟩
theorem sm_lt (l : List UInt8) : (sm l).1 < 65521 ∧ (sm l).2 < 65521 := by
  rcases List.eq_nil_or_concat l with rfl | ⟨r, c, rfl⟩
  · exact ⟨by decide, by decide⟩
  · rw [List.concat_eq_append, sm_snoc]; exact step_lt _ _
theorem sumV_inj {l r : List UInt8} (h : sumV l = sumV r) : sm l = sm r := by
  have h1 := sm_lt l
  have h2 := sm_lt r
  unfold sumV at h
  exact Prod.ext (by omega) (by omega)
theorem sumV_append {l r : List UInt8} (h : sumV l = sumV r) (b : List UInt8) : sumV (l ++ b) = sumV (r ++ b) := by
  have := sumV_inj h
  unfold sumV sm at *
  rw [List.foldl_append, List.foldl_append, this]
/-- The bytes of a number. -/
def enc (n : Nat) : List UInt8 := if h : n < 128 then [UInt8.ofNat n] else UInt8.ofNat (128 + n % 128) :: enc (n / 128)
decreasing_by omega
theorem enc_lo {n : Nat} (h : n < 128) : enc n = [UInt8.ofNat n] := by rw [enc, dif_pos h]
theorem enc_hi {n : Nat} (h : ¬ n < 128) : enc n = UInt8.ofNat (128 + n % 128) :: enc (n / 128) := by rw [enc, dif_neg h]
theorem lo_nat {n : Nat} (h : n < 256) : (UInt8.ofNat n).toNat = n := by simp; omega
def val : List UInt8 → Nat
  | [] => 0
  | c :: r => c.toNat % 128 + 128 * val r
theorem val_snoc (l : List UInt8) (c : UInt8) : val (l ++ [c]) = val l + c.toNat % 128 * 128 ^ l.length := by
  induction l with
  | nil => simp [val]
  | cons d l ih =>
    simp only [List.cons_append, val, ih, List.length_cons, Nat.pow_succ]
    rw [Nat.mul_add, ← Nat.add_assoc]
    congr 1
    rw [Nat.mul_comm 128, Nat.mul_assoc]
theorem val_lt (l : List UInt8) : val l < 128 ^ l.length := by
  induction l with
  | nil => simp [val]
  | cons c l ih =>
    simp only [val, List.length_cons, Nat.pow_succ]
    have := Nat.mod_lt c.toNat (show 128 > 0 by omega)
    omega
theorem val_enc (n : Nat) : val (enc n) = n := by
  induction n using Nat.strongRecOn with
  | _ n ih =>
    by_cases h : n < 128
    · rw [enc_lo h]; simp only [val]; rw [lo_nat (by omega)]; omega
    · rw [enc_hi h]; simp only [val]; rw [ih (n / 128) (by omega), lo_nat (by omega)]; omega
/-- All bytes but the last one are continued. -/
theorem enc_form (n : Nat) : ∃ p c, enc n = p ++ [c] ∧ (∀ x ∈ p, 128 ≤ x.toNat) ∧ c.toNat < 128 ∧ (0 < n → c.toNat ≠ 0) ∧ (n = 0 → p = []) := by
  induction n using Nat.strongRecOn with
  | _ n ih =>
    by_cases h : n < 128
    · refine ⟨[], UInt8.ofNat n, by rw [enc_lo h]; rfl, by simp, by rw [lo_nat (by omega)]; exact h, fun h0 => by rw [lo_nat (by omega)]; omega, fun _ => rfl⟩
    · obtain ⟨p, c, e, h1, h2, h3, h4⟩ := ih (n / 128) (by omega)
      refine ⟨UInt8.ofNat (128 + n % 128) :: p, c, by rw [enc_hi h, e]; rfl, fun x hx => ?_, h2, fun _ => h3 (by omega), fun h0 => by omega⟩
      rcases List.mem_cons.1 hx with rfl | hx
      · rw [lo_nat (by omega)]; omega
      · exact h1 x hx
theorem enc_len_le (k : Nat) : ∀ n, n < 128 ^ (k + 1) → (enc n).length ≤ k + 1 := by
  induction k with
  | zero => intro n h; rw [enc_lo (by simpa using h)]; simp
  | succ k ih =>
    intro n h
    by_cases hn : n < 128
    · rw [enc_lo hn]; simp
    · rw [enc_hi hn]
      have := ih (n / 128) (by rw [Nat.div_lt_iff_lt_mul (by omega)]; rw [Nat.pow_succ] at h; exact h)
      simp only [List.length_cons]
      omega
theorem enc_mono : ∀ n m, n ≤ m → (enc n).length ≤ (enc m).length := by
  intro n
  induction n using Nat.strongRecOn with
  | _ n ih =>
    intro m h
    by_cases hn : n < 128
    · rw [enc_lo hn]
      obtain ⟨p, c, e, _⟩ := enc_form m
      rw [e]; simp
    · rw [enc_hi hn, enc_hi (by omega : ¬ m < 128)]
      have := ih (n / 128) (by omega) (m / 128) (Nat.div_le_div_right h)
      simp only [List.length_cons]
      omega
/-- The number with whose bytes others begin. -/
def leadFrom (l : List UInt8) (k : Nat) : Nat → Nat × Nat × Bool
  | 0 => (0, 0, false)
  | f + 1 => match l[k]? with
    | none => (0, 0, false)
    | some c => if c.toNat < 128 then (if val (l.take (k + 1)) ≤ 1152921504606846976 ∧ ¬ (c.toNat = 0 ∧ 0 < k) then (val (l.take (k + 1)), k + 1, true) else (0, 0, false)) else leadFrom l (k + 1) f
def lead (l : List UInt8) : Nat × Nat × Bool := leadFrom l 0 9
theorem from_next {l : List UInt8} {k f : Nat} {c : UInt8} (h : l[k]? = some c) (h2 : 128 ≤ c.toNat) : leadFrom l k (f + 1) = leadFrom l (k + 1) f := by
  rw [leadFrom, h]; simp only; rw [if_neg (by omega)]
theorem from_last {l : List UInt8} {k f : Nat} {c : UInt8} (h : l[k]? = some c) (h2 : c.toNat < 128) : leadFrom l k (f + 1) = if val (l.take (k + 1)) ≤ 1152921504606846976 ∧ ¬ (c.toNat = 0 ∧ 0 < k) then (val (l.take (k + 1)), k + 1, true) else (0, 0, false) := by
  rw [leadFrom, h]; simp only; rw [if_pos h2]
theorem from_end {l : List UInt8} {k f : Nat} (h : l.length ≤ k) : leadFrom l k f = (0, 0, false) := by
  cases f with
  | zero => rfl
  | succ f => rw [leadFrom, List.getElem?_eq_none h]
theorem from_skip (l : List UInt8) : ∀ (d k f : Nat), d ≤ f → (∀ i c, k ≤ i → i < k + d → l[i]? = some c → 128 ≤ c.toNat) → k + d ≤ l.length → leadFrom l k f = leadFrom l (k + d) (f - d)
  | 0, k, f, _, _, _ => rfl
  | d + 1, k, f, hf, h, hl => by
    obtain ⟨f, rfl⟩ : ∃ g, f = g + 1 := ⟨f - 1, by omega⟩
    obtain ⟨c, hc⟩ : ∃ c, l[k]? = some c := ⟨_, List.getElem?_eq_getElem (by omega)⟩
    rw [from_next hc (h k c (Nat.le_refl _) (by omega) hc), from_skip l d (k + 1) f (by omega) (fun i c h1 h2 => h i c (by omega) (by omega)) (by omega)]
    congr 1 <;> omega
theorem lead_enc (n : Nat) (hn : n ≤ 1152921504606846976) (b : List UInt8) : lead (enc n ++ b) = (n, (enc n).length, true) := by
  have hl : (enc n).length ≤ 9 := enc_len_le 8 n (by omega)
  have hv := val_enc n
  obtain ⟨p, c, e, h1, h2, h3, h4⟩ := enc_form n
  rw [e] at hl hv ⊢
  have hp : p.length + 1 ≤ 9 := by simpa using hl
  unfold lead
  have hlt : 0 + p.length ≤ (p ++ [c] ++ b).length := by simp
  rw [from_skip (p ++ [c] ++ b) p.length 0 9 (by omega) (fun i x _ hi hx => by
    rw [List.append_assoc, List.getElem?_append_left (by omega)] at hx
    exact h1 x (List.mem_of_getElem? hx)) hlt]
  obtain ⟨f, hf⟩ : ∃ f, 9 - p.length = f + 1 := ⟨8 - p.length, by omega⟩
  rw [hf, Nat.zero_add, from_last (c := c) (by simp) h2]
  have ht : (p ++ [c] ++ b).take (p.length + 1) = p ++ [c] := List.take_left' (by simp)
  rw [ht, hv, if_pos ⟨hn, fun hh => by
    by_cases h0 : n = 0
    · have := h4 h0; subst this; simp at hh
    · exact h3 (by omega) hh.1⟩]
  simp
theorem lead_cut (n : Nat) : lead (enc n).dropLast = (0, 0, false) := by
  obtain ⟨p, c, e, h1, _⟩ := enc_form n
  rw [e, List.dropLast_concat]
  unfold lead
  by_cases hp : p.length ≤ 9
  · rw [from_skip p p.length 0 9 hp (fun i x _ _ hx => h1 x (List.mem_of_getElem? hx)) (by omega), from_end (by omega)]
  · rw [from_skip p 9 0 9 (Nat.le_refl _) (fun i x _ _ hx => h1 x (List.mem_of_getElem? hx)) (by omega)]
    rfl
theorem from_bad (l : List UInt8) : ∀ (f k : Nat), (leadFrom l k f).2.2 = false → leadFrom l k f = (0, 0, false)
  | 0, k, _ => rfl
  | f + 1, k, h => by
    rw [leadFrom] at h ⊢
    cases hc : l[k]? with
    | none => rfl
    | some c =>
      rw [hc] at h
      simp only at h ⊢
      split
      · rename_i h1
        rw [if_pos h1] at h
        split
        · rename_i h2; rw [if_pos h2] at h; cases h
        · rfl
      · rename_i h1
        rw [if_neg h1] at h
        exact from_bad l f (k + 1) h
theorem lead_bad {l : List UInt8} (h : (lead l).2.2 = false) : lead l = (0, 0, false) := from_bad l 9 0 h
end Pk
end Go.Proofs.Ytieipohbdogljaa
