/- Plain facts on texts: the escaped text of a quote by two replacements, and decimal digits from the last one on. -/
import Derived.Lib.ItoaNum
import Derived.Lib.Bytealg
namespace Go.Proofs.YtjacdlglbjnoeaaGreatDoor
open Go

namespace Sx
/-- Each byte c is replaced. -/
def rep (c : UInt8) (new : List UInt8) (l : List UInt8) : List UInt8 := l.flatMap fun b => if b = c then new else [b]
/-- The text as it stands in a quote. -/
def needs (c : UInt8) : Bool := c.toNat == 34 || c.toNat == 92
def esc (l : List UInt8) : List UInt8 := l.flatMap fun c => if needs c then [92, c] else [c]

theorem rep_append (c : UInt8) (new a b : List UInt8) : rep c new (a ++ b) = rep c new a ++ rep c new b := by simp [rep]

theorem rep_none {c : UInt8} {new : List UInt8} : ∀ {l : List UInt8}, l.count c = 0 → rep c new l = l
  | [], _ => rfl
  | b :: l, h => by
    by_cases hb : b = c
    · subst hb; simp at h
    · have h2 : l.count c = 0 := by rw [List.count_cons_of_ne hb] at h; exact h
      rw [show b :: l = [b] ++ l by rfl, rep_append, rep_none h2]
      simp [rep, hb]

theorem rep_hit {c : UInt8} {new a l : List UInt8} (h : a.count c = 0) : rep c new (a ++ c :: l) = a ++ new ++ rep c new l := by
  rw [rep_append, rep_none h]
  simp [rep]

theorem rep_len (c : UInt8) (new : List UInt8) (h : 1 ≤ new.length) : ∀ l : List UInt8, (rep c new l).length ≤ new.length * l.length
  | [] => by simp [rep]
  | b :: l => by
    have ih := rep_len c new h l
    rw [show b :: l = [b] ++ l by rfl, rep_append, List.length_append, List.length_append, Nat.mul_add]
    have : (rep c new [b]).length ≤ new.length := by simp only [rep, List.flatMap_cons, List.flatMap_nil, List.append_nil]; split <;> simp <;> omega
    simp at *; omega

theorem rep_rep : ∀ l : List UInt8, rep 34 [92, 34] (rep 92 [92, 92] l) = esc l
  | [] => rfl
  | b :: l => by
    have ih := rep_rep l
    rw [show b :: l = [b] ++ l by rfl, rep_append, rep_append, ih]
    have e : esc ([b] ++ l) = esc [b] ++ esc l := by simp [esc]
    rw [e]
    congr 1
    by_cases h : b = 92
    · subst h; rfl
    · by_cases h2 : b = 34
      · subst h2; rfl
      · have h3 : needs b = false := by
          have e1 : b.toNat ≠ 92 := fun e => h (UInt8.toNat_inj.1 (by rw [e]; rfl))
          have e2 : b.toNat ≠ 34 := fun e => h2 (UInt8.toNat_inj.1 (by rw [e]; rfl))
          simp [needs, e1, e2]
        simp [rep, esc, h, h2, h3]

theorem esc_snoc (l : List UInt8) (c : UInt8) : esc (l ++ [c]) = esc l ++ if needs c then [92, c] else [c] := by simp [esc]
theorem esc_len (l : List UInt8) : (esc l).length ≤ 2 * l.length := by
  induction l with
  | nil => simp [esc]
  | cons c l ih =>
    have e : esc (c :: l) = (if needs c then [92, c] else [c]) ++ esc l := by simp [esc]
    rw [e, List.length_append, List.length_cons]
    split <;> simp <;> omega

/-- Where the first byte c stands. -/
theorem index_first {c : UInt8} : ∀ {l : List UInt8}, 0 < l.count c → ∃ j : Nat, Lib.indexByte l c = j ∧ j < l.length ∧ l = l.take j ++ c :: l.drop (j + 1) ∧ (l.take j).count c = 0
  | [], h => by simp at h
  | b :: l, h => by
    by_cases hb : b = c
    · subst hb
      exact ⟨0, by simp [Lib.indexByte], by simp, by simp, by simp⟩
    · have h2 : 0 < l.count c := by rw [List.count_cons_of_ne hb] at h; exact h
      obtain ⟨j, h3, h4, h5, h6⟩ := index_first h2
      refine ⟨j + 1, ?_, by simp; omega, ?_, ?_⟩
      · have hp : (b == c) = false := by simpa using hb
        have hn : (Lib.indexByte l c == -1) = false := by rw [h3, beq_eq_false_iff_ne]; omega
        rw [Lib.indexByte, hp, hn, h3]
        simp
      · simp; exact h5
      · simp [List.take_succ_cons, List.count_cons_of_ne hb, h6]

/-- What a round of the replacing does. -/
theorem rep_round {c : UInt8} {new l : List UInt8} {g : Nat} (h : l.count c = g + 1) : ∃ j : Nat, Lib.indexByte l c = j ∧ j < l.length ∧ rep c new l = l.take j ++ new ++ rep c new (l.drop (j + 1)) ∧ (l.drop (j + 1)).count c = g := by
  obtain ⟨j, h1, h2, h3, h4⟩ := index_first (c := c) (l := l) (by omega)
  refine ⟨j, h1, h2, ?_, ?_⟩
  · rw [show rep c new l = rep c new (l.take j ++ c :: l.drop (j + 1)) from congrArg _ h3, rep_hit h4]
  · have h5 := congrArg (List.count c) h3
    rw [List.count_append, h4, List.count_cons_self, h] at h5
    omega

/-- The digits of a number that is not 0; none for 0. -/
def dd (u : Nat) : List UInt8 := if u = 0 then [] else Lib.decDigits u
theorem dd_zero : dd 0 = [] := rfl
theorem dd_step (u : Nat) (h : 0 < u) : dd u = dd (u / 10) ++ [UInt8.ofNat (48 + u % 10)] := by
  unfold dd
  rw [if_neg (by omega)]
  rw [Lib.decDigits]
  split
  · rename_i h10
    rw [if_pos (by omega), show u % 10 = u by omega]; rfl
  · rw [if_neg (by omega)]
theorem dec_step (u : Nat) : Lib.decDigits u = dd (u / 10) ++ [UInt8.ofNat (48 + u % 10)] := by
  by_cases h : u = 0
  · subst h; rw [Lib.decDigits]; rfl
  · have := dd_step u (by omega)
    unfold dd at this ⊢
    rw [if_neg h] at this
    exact this
end Sx
end Go.Proofs.YtjacdlglbjnoeaaGreatDoor
