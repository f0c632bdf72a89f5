/- Plain facts: the token that begins at a byte, told by what that byte is; quotes read byte by byte and looked at in the end; blanks and comments byte by byte. -/
import Derived.Test.YtbhknpombmdhiaaDoorWordy
import Derived.Test.YtbhknpombmdhiaaDoorRefText
namespace Go.Proofs.YtbhknpombmdhiaaDoor.Lx

def headB (c : UInt8) : Bool := isLetter c || (isDigit c || c.toNat == 34)
theorem sign_heads : (signList.all fun x => match x with | [] => false | c :: _ => !headB c) = true := by decide +kernel
theorem isSign_head {c : UInt8} (l : List UInt8) (h : headB c = true) : isSign (c :: l) = false := by
  cases e : isSign (c :: l)
  · rfl
  · have hm : (c :: l) ∈ signList := by simpa [isSign] using e
    have := List.all_eq_true.1 sign_heads _ hm
    simp [h] at this
theorem signTok_head {c : UInt8} (l : List UInt8) (h : headB c = true) : signTok (c :: l) = none := by
  unfold signTok
  have e2 : (c :: l).take 2 = c :: l.take 1 := rfl
  have e1 : (c :: l).take 1 = c :: l.take 0 := rfl
  rw [e2, e1, isSign_head _ h, isSign_head _ h]
  simp
theorem numTok_other {c : UInt8} (l : List UInt8) (h : isDigit c = false) : numTok (c :: l) = none := by
  unfold numTok
  simp [run, h, isNumeral]
theorem wordTok_other {c : UInt8} (l : List UInt8) (h : isLetter c = false) : wordTok (c :: l) = none := by
  simp [wordTok, h]
theorem digit_other {c : UInt8} (h : isLetter c = true) : isDigit c = false ∧ ¬ c.toNat = 34 := by
  simp [isLetter, isDigit] at h ⊢; omega
theorem quote_other {c : UInt8} (h : isDigit c = true) : ¬ c.toNat = 34 := by
  simp [isDigit] at h ⊢; omega
theorem letter_34 {c : UInt8} (h : c.toNat = 34) : isLetter c = false ∧ isDigit c = false := by
  simp [isLetter, isDigit]; omega

theorem tokenAt_letter {r : List UInt8} {c : UInt8} (hr : r = c :: r.tail) (h : isLetter c = true) : tokenAt r = if isWord (r.take (run isLD r)) then some (5, r.take (run isLD r), run isLD r) else if isName (r.take (run isLD r)) then some (1, r.take (run isLD r), run isLD r) else none := by
  have e : wordTok r = if isWord (r.take (run isLD r)) then some (5, r.take (run isLD r), run isLD r) else if isName (r.take (run isLD r)) then some (1, r.take (run isLD r), run isLD r) else none := by
    rw [hr]; simp only [wordTok, h, if_true]
  obtain ⟨h1, h2⟩ := digit_other h
  unfold tokenAt
  rw [← e]
  generalize r.tail = l at hr
  subst hr
  rw [numTok_other _ h1, quoteTok_other (r := c :: l) rfl h2, signTok_head _ (by simp [headB, h])]
  cases wordTok (c :: l) <;> rfl
theorem tokenAt_digit {r : List UInt8} {c : UInt8} (hr : r = c :: r.tail) (hl : isLetter c = false) (h : isDigit c = true) : tokenAt r = if isNumeral (r.take (run isDigit r)) then some (2, r.take (run isDigit r), run isDigit r) else none := by
  have e : numTok r = if isNumeral (r.take (run isDigit r)) then some (2, r.take (run isDigit r), run isDigit r) else none := rfl
  unfold tokenAt
  rw [← e]
  generalize r.tail = l at hr
  subst hr
  rw [wordTok_other _ hl, quoteTok_other (r := c :: l) rfl (quote_other h), signTok_head _ (by simp [headB, h])]
  cases numTok (c :: l) <;> rfl
theorem tokenAt_quote {r : List UInt8} {c : UInt8} (hr : r = c :: r.tail) (h : c.toNat = 34) : tokenAt r = quoteTok r := by
  obtain ⟨h1, h2⟩ := letter_34 h
  unfold tokenAt
  generalize r.tail = l at hr
  subst hr
  rw [wordTok_other _ h1, numTok_other _ h2, signTok_head _ (by simp [headB, h])]
  cases quoteTok (c :: l) <;> rfl
theorem tokenAt_sign {r : List UInt8} {c : UInt8} (hr : r = c :: r.tail) (h1 : isLetter c = false) (h2 : isDigit c = false) (h : ¬ c.toNat = 34) : tokenAt r = signTok r := by
  unfold tokenAt
  generalize r.tail = l at hr
  subst hr
  rw [wordTok_other _ h1, numTok_other _ h2, quoteTok_other (r := c :: l) rfl h]
  rfl

/-- A quote behind its first byte, whatever stands in it. -/
def quoteAny : List UInt8 → Option (List UInt8 × Nat)
  | [] => none
  | c :: l =>
    if c.toNat == 34 then some ([], 1)
    else if c.toNat == 92 then
      match l with
      | [] => none
      | d :: l' => if needsEsc d then (quoteAny l').map (fun (t, n) => (d :: t, n + 2)) else none
    else (quoteAny l).map (fun (t, n) => (c :: t, n + 1))

theorem any_close {c : UInt8} (l : List UInt8) (h : c.toNat = 34) : quoteAny (c :: l) = some ([], 1) := by
  cases l <;> (conv => lhs; unfold quoteAny) <;> simp [h]
theorem any_plain {c : UInt8} (l : List UInt8) (h1 : ¬ c.toNat = 34) (h2 : ¬ c.toNat = 92) : quoteAny (c :: l) = (quoteAny l).map (fun p => (c :: p.1, p.2 + 1)) := by
  cases l <;> (conv => lhs; unfold quoteAny) <;> simp [h1, h2]
theorem any_cut {c : UInt8} (h2 : c.toNat = 92) : quoteAny [c] = none := by simp [quoteAny, h2]
theorem any_bad_esc {c d : UInt8} (l : List UInt8) (h2 : c.toNat = 92) (h3 : needsEsc d = false) : quoteAny (c :: d :: l) = none := by simp [quoteAny, h2, h3]
theorem any_esc {c d : UInt8} (l : List UInt8) (h2 : c.toNat = 92) (h3 : needsEsc d = true) : quoteAny (c :: d :: l) = (quoteAny l).map (fun p => (d :: p.1, p.2 + 2)) := by simp [quoteAny, h2, h3]

theorem quote_any_go : ∀ (m : Nat) (l : List UInt8), l.length ≤ m → quoteGo l = (quoteAny l).bind fun p => if p.1.all isPrinted then some p else none
  | m, [], _ => rfl
  | 0, c :: l, h => by simp at h
  | m + 1, c :: l, h => by
    have hm : l.length ≤ m := by simpa using h
    by_cases h1 : c.toNat = 34
    · rw [go_close l h1, any_close l h1]; rfl
    · by_cases h2 : c.toNat = 92
      · cases l with
        | nil => rw [go_cut h2, any_cut h2]; rfl
        | cons d l' =>
          cases h3 : needsEsc d
          · rw [go_bad_esc l' h2 h3, any_bad_esc l' h2 h3]; rfl
          · rw [go_esc l' h2 h3, any_esc l' h2 h3, quote_any_go m l' (by simp at hm; omega)]
            cases quoteAny l' with
            | none => rfl
            | some p =>
              have hd := needsEsc_printed h3
              simp [hd]
      · cases h3 : isPrinted c
        · rw [go_bad l h1 h2 h3, any_plain l h1 h2]
          cases quoteAny l with
          | none => rfl
          | some p => simp [h3]
        · rw [go_plain l h1 h2 h3, any_plain l h1 h2, quote_any_go m l hm]
          cases quoteAny l with
          | none => rfl
          | some p => simp [h3]

theorem quoteTok_any_none {r : List UInt8} (h : quoteAny r.tail = none) : quoteTok r = none := by
  refine quoteTok_none ?_
  rw [quote_any_go _ _ (Nat.le_refl _), h]; rfl
theorem quoteTok_any_some {r : List UInt8} {c : UInt8} {tx : List UInt8} {k : Nat} (hr : r = c :: r.tail) (hc : c.toNat = 34) (h : quoteAny r.tail = some (tx, k)) : quoteTok r = if isText tx then some (3, tx, k + 1) else none := by
  have e := quote_any_go _ r.tail (Nat.le_refl _)
  rw [h] at e
  by_cases hp : tx.all isPrinted = true
  · have e' : quoteGo r.tail = some (tx, k) := by rw [e]; exact if_pos hp
    rw [quoteTok_some hr hc e']
    unfold isText; rw [hp]; simp
  · have e' : quoteGo r.tail = none := by rw [e]; exact if_neg hp
    rw [quoteTok_none e']
    unfold isText; rw [Bool.eq_false_iff.2 hp]; simp

/-- Where k bytes of r have been read, and the text tx has come. -/
def QA (r : List UInt8) (k : Nat) (tx : List UInt8) : Prop := quoteAny r.tail = (quoteAny (r.drop k)).map fun p => (tx ++ p.1, p.2 + (k - 1))
theorem QA.start (r : List UInt8) : QA r 1 [] := by
  unfold QA
  rw [show r.drop 1 = r.tail by simp]
  cases quoteAny r.tail <;> simp
theorem QA.over {r : List UInt8} {k : Nat} {tx : List UInt8} (h : QA r k tx) (hk : r.length ≤ k) : quoteAny r.tail = none := by
  unfold QA at h
  rw [h, List.drop_of_length_le hk]; rfl
theorem QA.close {r : List UInt8} {k : Nat} {tx : List UInt8} (h : QA r k tx) (h1 : 1 ≤ k) (hk : k < r.length) (hc : r[k].toNat = 34) : quoteAny r.tail = some (tx, k) := by
  unfold QA at h
  rw [h, drop_at r k hk, any_close _ hc]
  have e : 1 + (k - 1) = k := by omega
  simp [e]
theorem QA.plain {r : List UInt8} {k : Nat} {tx : List UInt8} (h : QA r k tx) (h0 : 1 ≤ k) (hk : k < r.length) (h1 : ¬ r[k].toNat = 34) (h2 : ¬ r[k].toNat = 92) : QA r (k + 1) (tx ++ [r[k]]) := by
  unfold QA at h ⊢
  rw [h, drop_at r k hk, any_plain _ h1 h2]
  cases quoteAny (r.drop (k + 1)) with
  | none => rfl
  | some p => simp; omega
theorem QA.cut {r : List UInt8} {k : Nat} {tx : List UInt8} (h : QA r k tx) (hk : k + 1 = r.length) (h2 : r[k].toNat = 92) : quoteAny r.tail = none := by
  unfold QA at h
  rw [h, drop_at r k (by omega), List.drop_of_length_le (by omega), any_cut h2]; rfl
theorem QA.bad_esc {r : List UInt8} {k : Nat} {tx : List UInt8} (h : QA r k tx) (hk : k + 1 < r.length) (h2 : r[k].toNat = 92) (h3 : needsEsc r[k + 1] = false) : quoteAny r.tail = none := by
  unfold QA at h
  rw [h, drop_at r k (by omega), drop_at r (k + 1) hk, any_bad_esc _ h2 h3]; rfl
theorem QA.esc {r : List UInt8} {k : Nat} {tx : List UInt8} (h : QA r k tx) (h0 : 1 ≤ k) (hk : k + 1 < r.length) (h2 : r[k].toNat = 92) (h3 : needsEsc r[k + 1] = true) : QA r (k + 2) (tx ++ [r[k + 1]]) := by
  unfold QA at h ⊢
  rw [h, drop_at r k (by omega), drop_at r (k + 1) hk, any_esc _ h2 h3]
  cases quoteAny (r.drop (k + 1 + 1)) with
  | none => rfl
  | some p => simp; omega

/-- What a numeral's check comes to, byte by byte. -/
theorem run_full {p : UInt8 → Bool} : ∀ {s : List UInt8}, (∀ i (h : i < s.length), p s[i] = true) → run p s = s.length
  | [], _ => rfl
  | c :: l, h => by
    have h0 : p c = true := h 0 (by simp)
    have := run_full (p := p) (s := l) fun i hi => by have := h (i + 1) (by simp; omega); simpa using this
    simp [run, h0, this]
theorem run_not_full {p : UInt8 → Bool} {s : List UInt8} {i : Nat} (h : i < s.length) (hp : p s[i] = false) : (run p s == s.length) = false := by
  rw [beq_eq_false_iff_ne]
  intro e
  have := run_all p s i (by omega)
  rw [hp] at this; cases this
theorem val_snoc : ∀ (l : List UInt8) (a : Nat) (c : UInt8), val a (l ++ [c]) = val a l * 10 + (c.toNat - 48)
  | [], a, c => rfl
  | d :: l, a, c => by
    show val (a * 10 + (d.toNat - 48)) (l ++ [c]) = _
    rw [val_snoc l]; rfl
theorem val_app : ∀ (l : List UInt8) (a : Nat) (m : List UInt8), val a (l ++ m) = val (val a l) m
  | [], a, m => rfl
  | d :: l, a, m => by
    show val (a * 10 + (d.toNat - 48)) (l ++ m) = _
    rw [val_app l]; rfl

end Go.Proofs.YtbhknpombmdhiaaDoor.Lx
