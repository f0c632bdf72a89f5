/- The plain functions on lists of bytes that say what the lexical part of the program computes, and plain facts about them. -/
import Derived.Lib.IndexMore
import Derived.Lib.AtoiAll
namespace Go.Proofs.YtbhknpombmdhiaaDoor.Lx

/-- A byte by its number. -/
def isLetter (c : UInt8) : Bool := decide (97 ≤ c.toNat) && decide (c.toNat ≤ 122)
def isDigit (c : UInt8) : Bool := decide (48 ≤ c.toNat) && decide (c.toNat ≤ 57)
def isLD (c : UInt8) : Bool := isLetter c || isDigit c
def isBlank (c : UInt8) : Bool := c.toNat == 9 || c.toNat == 10 || c.toNat == 13 || c.toNat == 32
def isPrinted (c : UInt8) : Bool := decide (32 ≤ c.toNat) && decide (c.toNat ≤ 126)
def needsEsc (c : UInt8) : Bool := c.toNat == 34 || c.toNat == 92
def notLF (c : UInt8) : Bool := !(c.toNat == 10)

/-- How many bytes at the beginning are of a kind. -/
def run (p : UInt8 → Bool) : List UInt8 → Nat
  | [] => 0
  | c :: l => if p c then run p l + 1 else 0

theorem run_le (p : UInt8 → Bool) (l : List UInt8) : run p l ≤ l.length := by
  induction l with
  | nil => simp [run]
  | cons c l ih => simp only [run, List.length_cons]; split <;> omega

theorem run_all (p : UInt8 → Bool) : ∀ (l : List UInt8) (i : Nat) (h : i < run p l), p (l[i]'(Nat.lt_of_lt_of_le h (run_le p l))) = true
  | [], _, h => by simp [run] at h
  | c :: l, i, h => by
    simp only [run] at h
    split at h
    · rename_i hc
      cases i with
      | zero => simpa using hc
      | succ i => simpa using run_all p l i (by omega)
    · omega

theorem run_stop (p : UInt8 → Bool) : ∀ (l : List UInt8) (h : run p l < l.length), p (l[run p l]) = false
  | [], h => by simp at h
  | c :: l, h => by
    by_cases hc : p c = true
    · have e : run p (c :: l) = run p l + 1 := by simp [run, hc]
      have h' : run p l < l.length := by rw [e] at h; simpa using h
      have := run_stop p l h'
      simp only [e, List.getElem_cons_succ]; exact this
    · have e : run p (c :: l) = 0 := by simp [run, hc]
      simp only [e, List.getElem_cons_zero]; simpa using hc

theorem run_eq (p : UInt8 → Bool) : ∀ (l : List UInt8) (k : Nat) (hk : k ≤ l.length), (∀ i (h : i < k), p (l[i]) = true) → (∀ h : k < l.length, p (l[k]) = false) → run p l = k
  | [], k, hk, _, _ => by simp at hk; simp [run, hk]
  | c :: l, 0, _, _, h2 => by have := h2 (by simp); simp at this; simp [run, this]
  | c :: l, k + 1, hk, h1, h2 => by
    have hc : p c = true := by simpa using h1 0 (by omega)
    simp only [run, hc, if_true]
    have := run_eq p l k (by simpa using hk) (fun i h => by have := h1 (i + 1) (by omega); simp only [List.getElem_cons_succ] at this; exact this) (fun h => by have := h2 (by simpa using h); simp only [List.getElem_cons_succ] at this; exact this)
    omega

/-- The words, with a blank around each. -/
def words : List UInt8 := [32, 97, 102, 116, 101, 114, 32, 97, 119, 97, 105, 116, 32, 98, 111, 111, 108, 32, 98, 114, 101, 97, 107, 32, 98, 117, 102, 102, 101, 114, 32, 99, 97, 110, 99, 101, 108, 32, 99, 97, 116, 99, 104, 32, 99, 104, 97, 110, 32, 99, 108, 111, 115, 101, 32, 99, 111, 110, 116, 105, 110, 117, 101, 32, 100, 114, 111, 112, 32, 101, 97, 99, 104, 32, 101, 108, 115, 101, 32, 101, 109, 105, 116, 32, 102, 97, 108, 115, 101, 32, 102, 105, 110, 97, 108, 108, 121, 32, 102, 108, 111, 119, 32, 102, 110, 32, 102, 114, 111, 109, 32, 104, 111, 108, 100, 32, 105, 102, 32, 105, 110, 116, 32, 108, 101, 116, 32, 108, 111, 99, 107, 32, 110, 101, 119, 32, 110, 111, 119, 32, 111, 108, 100, 32, 112, 114, 111, 100, 117, 99, 101, 32, 114, 101, 99, 101, 105, 118, 101, 32, 114, 101, 116, 117, 114, 110, 32, 115, 99, 111, 112, 101, 32, 115, 101, 108, 101, 99, 116, 32, 115, 101, 110, 100, 32, 115, 104, 105, 101, 108, 100, 32, 115, 108, 101, 101, 112, 32, 115, 112, 97, 119, 110, 32, 115, 117, 112, 101, 114, 118, 105, 115, 101, 100, 32, 116, 97, 115, 107, 32, 116, 101, 120, 116, 32, 116, 104, 114, 111, 119, 32, 116, 114, 117, 101, 32, 116, 114, 121, 32, 117, 115, 101, 32, 119, 104, 105, 108, 101, 32, 119, 105, 116, 104, 105, 110, 32, 121, 105, 101, 108, 100, 32]

def isWord (s : List UInt8) : Bool := !Go.Lib.contains s [32] && Go.Lib.contains words ([32] ++ s ++ [32])
def isName (s : List UInt8) : Bool := match s with
  | [] => false
  | c :: _ => decide (s.length ≤ 12) && isLetter c && (run isLD s == s.length) && !isWord s

/-- What a list of digits spells, behind what stands before it. -/
def val (acc : Nat) : List UInt8 → Nat
  | [] => acc
  | c :: l => val (acc * 10 + (c.toNat - 48)) l
def isNumeral (s : List UInt8) : Bool := match s with
  | [] => false
  | c :: l => (run isDigit s == s.length) && (!(c.toNat == 48) || l.isEmpty) && decide (val 0 s ≤ 1000000000000)

theorem val_ge : ∀ (l : List UInt8) (a : Nat), a ≤ val a l
  | [], a => Nat.le_refl a
  | c :: l, a => Nat.le_trans (by omega) (val_ge l _)

/-- Of digits alone: what the library's parse comes to. -/
theorem parse_digits : ∀ (l : List UInt8) (a : Nat), a < 18446744073709551616 → run isDigit l = l.length →
    (val a l < 18446744073709551616 ∧ Go.Lib.parseUint10 a l = .ok (val a l)) ∨ (18446744073709551616 ≤ val a l ∧ Go.Lib.parseUint10 a l = .range)
  | [], a, ha, _ => .inl ⟨ha, rfl⟩
  | c :: l, a, ha, h => by
    have hc : isDigit c = true := by
      by_cases hc : isDigit c = true
      · exact hc
      · simp [run, hc] at h
    have hr : run isDigit l = l.length := by simpa [run, hc] using h
    simp only [isDigit, Bool.and_eq_true, decide_eq_true_eq] at hc
    have hv := val_ge l (a * 10 + (c.toNat - 48))
    have e : val a (c :: l) = val (a * 10 + (c.toNat - 48)) l := rfl
    rw [e]
    unfold Go.Lib.parseUint10
    rw [if_pos hc]
    by_cases h1 : 1844674407370955162 ≤ a
    · rw [if_pos h1]; exact .inr ⟨by omega, rfl⟩
    · rw [if_neg h1]
      by_cases h2 : 18446744073709551616 ≤ a * 10 + (c.toNat - 48)
      · rw [if_pos h2]; exact .inr ⟨by omega, rfl⟩
      · rw [if_neg h2]; exact parse_digits l _ (by omega) hr

theorem atoi_digits (c : UInt8) (l : List UInt8) (h : run isDigit (c :: l) = (c :: l).length) :
    (val 0 (c :: l) < 9223372036854775808 ∧ Go.Lib.atoiAll (c :: l) = .ok (val 0 (c :: l) : Nat)) ∨ (9223372036854775808 ≤ val 0 (c :: l) ∧ Go.Lib.atoiAll (c :: l) = .range) := by
  have hc : isDigit c = true := by
    by_cases hc : isDigit c = true
    · exact hc
    · simp [run, hc] at h
  have hd : 48 ≤ c.toNat ∧ c.toNat ≤ 57 := by simpa [isDigit] using hc
  have e1 : ¬ (c.toNat = 43 ∨ c.toNat = 45) := by omega
  have e2 : ¬ c.toNat = 45 := by omega
  have hp := parse_digits (c :: l) 0 (by omega) h
  unfold Go.Lib.atoiAll
  simp only [if_neg e1]
  unfold Go.Lib.parseMag
  rw [if_neg (by simp : ¬ (c :: l) = [])]
  rcases hp with ⟨h1, hp⟩ | ⟨h1, hp⟩
  · rw [hp]
    simp only [e2, not_false_eq_true, true_and, false_and, if_false]
    by_cases h2 : 9223372036854775808 ≤ val 0 (c :: l)
    · rw [if_pos h2]; exact .inr ⟨h2, rfl⟩
    · rw [if_neg h2]; exact .inl ⟨by omega, rfl⟩
  · rw [hp]; exact .inr ⟨by omega, rfl⟩

/-- The bytes of a quote behind its first byte: the text and how many bytes; none where it is no quote. -/
def quoteGo : List UInt8 → Option (List UInt8 × Nat)
  | [] => none
  | c :: l =>
    if c.toNat == 34 then some ([], 1)
    else if c.toNat == 92 then
      match l with
      | [] => none
      | d :: l' => if needsEsc d then (quoteGo l').map (fun (t, n) => (d :: t, n + 2)) else none
    else if isPrinted c then (quoteGo l).map (fun (t, n) => (c :: t, n + 1)) else none

def signList : List (List UInt8) := [[40], [41], [123], [125], [44], [59], [61], [61, 61], [33, 61], [60], [60, 61], [62], [62, 61], [43], [45], [42], [47], [37], [33], [38, 38], [124, 124]]
def isSign (s : List UInt8) : Bool := signList.contains s

/-- A token without its position: its kind, its text; and how many bytes it has. -/
def wordTok (r : List UInt8) : Option (Int × List UInt8 × Nat) := match r with
  | [] => none
  | c :: _ => if isLetter c then
      if isWord (r.take (run isLD r)) then some (5, r.take (run isLD r), run isLD r)
      else if isName (r.take (run isLD r)) then some (1, r.take (run isLD r), run isLD r) else none
    else none
def numTok (r : List UInt8) : Option (Int × List UInt8 × Nat) :=
  if isNumeral (r.take (run isDigit r)) then some (2, r.take (run isDigit r), run isDigit r) else none
def quoteTok (r : List UInt8) : Option (Int × List UInt8 × Nat) := match r with
  | [] => none
  | c :: l => if c.toNat == 34 then
      match quoteGo l with
      | none => none
      | some (t, n) => if t.length ≤ 60 then some (3, t, n + 1) else none
    else none
def signTok (r : List UInt8) : Option (Int × List UInt8 × Nat) :=
  if 2 ≤ r.length ∧ isSign (r.take 2) = true then some (4, r.take 2, 2) else if 1 ≤ r.length ∧ isSign (r.take 1) = true then some (4, r.take 1, 1) else none
def tokenAt (r : List UInt8) : Option (Int × List UInt8 × Nat) :=
  ((wordTok r).or (numTok r)).or ((quoteTok r).or (signTok r))

/-- How many bytes are blanks and comments. -/
def skipB : Bool → List UInt8 → Nat
  | _, [] => 0
  | true, c :: l => if c.toNat == 10 then skipB false l + 1 else skipB true l + 1
  | false, c :: l => if isBlank c then skipB false l + 1 else if c.toNat == 35 then skipB true l + 1 else 0

theorem skip_comment : ∀ l : List UInt8, skipB true l = run notLF l + skipB false (l.drop (run notLF l))
  | [] => by simp [skipB, run]
  | c :: l => by
    by_cases h : c.toNat == 10
    · have e : run notLF (c :: l) = 0 := by simp [run, notLF, h]
      have hb : isBlank c = true := by simp [isBlank, h]
      simp [e, skipB, h, hb]
    · have e : run notLF (c :: l) = run notLF l + 1 := by simp [run, notLF, h]
      simp [e, skipB, h, skip_comment l]; omega

theorem skip_le : ∀ (b : Bool) (l : List UInt8), skipB b l ≤ l.length
  | true, [] => by simp [skipB]
  | false, [] => by simp [skipB]
  | true, c :: l => by
    simp only [skipB, List.length_cons]
    have := skip_le true l; have := skip_le false l
    split <;> omega
  | false, c :: l => by
    simp only [skipB, List.length_cons]
    have := skip_le true l; have := skip_le false l
    split
    · omega
    · split <;> omega

def skipAt (s : List UInt8) (at0 : Nat) : Nat := at0 + skipB false (s.drop at0)

/-- The tokens from a position on, and where the source is wrong. -/
def scan (s : List UInt8) : Nat → Nat → List (Int × List UInt8 × Nat) × Option Nat
  | 0, _ => ([], none)
  | fuel + 1, at0 =>
    if skipAt s at0 < s.length then
      match tokenAt (s.drop (skipAt s at0)) with
      | none => ([], some (skipAt s at0))
      | some (k, t, n) => ((k, t, skipAt s at0) :: (scan s fuel (skipAt s at0 + n)).1, (scan s fuel (skipAt s at0 + n)).2)
    else ([(6, [], s.length)], none)

/-- What stands at the end of a scan of a source. -/
def tokens (s : List UInt8) : List (Int × List UInt8 × Nat) × Option Nat := scan s (s.length + 1) 0

end Go.Proofs.YtbhknpombmdhiaaDoor.Lx
