/- Plain facts: the text of a token stands in the source at its position, and between two tokens there are blanks and comments alone. -/
import Derived.Test.YtbhknpombmdhiaaDoorRefPlain
import Derived.Test.YtbhknpombmdhiaaDoorParts
namespace Go.Proofs.YtbhknpombmdhiaaDoor.Lx

/-- What stands in a source for a token. -/
def txt (k : Int) (t : List UInt8) : List UInt8 := if k = 3 then [34] ++ esc t ++ [34] else t
/-- Can this be a token? -/
def isTok (k : Int) (t : List UInt8) : Bool :=
  if k = 1 then isName t else if k = 2 then isNumeral t else if k = 3 then isText t else if k = 4 then isSign t else if k = 5 then isWord t else decide (k = 6) && t.isEmpty

theorem quoteGo_txt : ∀ (m : Nat) (l t : List UInt8) (n : Nat), l.length ≤ m → quoteGo l = some (t, n) → l.take n = esc t ++ [34] ∧ t.all isPrinted = true
  | m, [], t, n, _, h => by cases h
  | 0, c :: l, t, n, hm, _ => by simp at hm
  | m + 1, c :: l, t, n, hm, h => by
    have hm' : l.length ≤ m := by simpa using hm
    by_cases h1 : c.toNat = 34
    · rw [go_close l h1] at h
      obtain ⟨rfl, rfl⟩ : [] = t ∧ 1 = n := by simpa using h
      have : c = 34 := UInt8.toNat_inj.1 (by rw [h1]; rfl)
      simp [esc, this]
    · by_cases h2 : c.toNat = 92
      · have hc : c = 92 := UInt8.toNat_inj.1 (by rw [h2]; rfl)
        cases l with
        | nil => rw [go_cut h2] at h; cases h
        | cons d l' =>
          cases h3 : needsEsc d
          · rw [go_bad_esc l' h2 h3] at h; cases h
          · rw [go_esc l' h2 h3] at h
            cases h4 : quoteGo l' with
            | none => rw [h4] at h; cases h
            | some p =>
              rw [h4] at h
              obtain ⟨rfl, rfl⟩ : d :: p.1 = t ∧ p.2 + 2 = n := by simpa using h
              obtain ⟨i1, i2⟩ := quoteGo_txt m l' p.1 p.2 (by simp at hm'; omega) h4
              refine ⟨?_, by simp [needsEsc_printed h3, i2]⟩
              have e : esc (d :: p.1) = [92, d] ++ esc p.1 := by simp [esc, h3]
              rw [e, List.take_succ_cons, List.take_succ_cons, i1, hc]; rfl
      · cases h3 : isPrinted c
        · rw [go_bad l h1 h2 h3] at h; cases h
        · rw [go_plain l h1 h2 h3] at h
          cases h4 : quoteGo l with
          | none => rw [h4] at h; cases h
          | some p =>
            rw [h4] at h
            obtain ⟨rfl, rfl⟩ : c :: p.1 = t ∧ p.2 + 1 = n := by simpa using h
            obtain ⟨i1, i2⟩ := quoteGo_txt m l p.1 p.2 hm' h4
            refine ⟨?_, by simp [h3, i2]⟩
            have hn : needsEsc c = false := by simp [needsEsc, h1, h2]
            have e : esc (c :: p.1) = [c] ++ esc p.1 := by simp [esc, hn]
            rw [e, List.take_succ_cons, i1]; rfl

theorem tokenAt_txt {r : List UInt8} {k : Int} {t : List UInt8} {n : Nat} (h : tokenAt r = some (k, t, n)) : txt k t = r.take n ∧ isTok k t = true ∧ ¬ k = 6 := by
  have hor : wordTok r = some (k, t, n) ∨ numTok r = some (k, t, n) ∨ quoteTok r = some (k, t, n) ∨ signTok r = some (k, t, n) := by
    unfold tokenAt at h
    cases h1 : wordTok r with
    | some a => rw [h1] at h; exact .inl (by simpa using h)
    | none =>
      cases h2 : numTok r with
      | some a => rw [h1, h2] at h; exact .inr (.inl (by simpa using h))
      | none =>
        cases h3 : quoteTok r with
        | some a => rw [h1, h2, h3] at h; exact .inr (.inr (.inl (by simpa using h)))
        | none => rw [h1, h2, h3] at h; exact .inr (.inr (.inr (by simpa using h)))
  rcases hor with h | h | h | h
  · cases r with
    | nil => simp [wordTok] at h
    | cons c l =>
      by_cases hl : isLetter c = true
      · simp only [wordTok, hl, if_true] at h
        split at h
        · rename_i hw
          simp only [Option.some.injEq, Prod.mk.injEq] at h
          obtain ⟨rfl, rfl, rfl⟩ := h
          exact ⟨rfl, by simpa [isTok] using hw, by decide⟩
        · split at h
          · rename_i hw
            simp only [Option.some.injEq, Prod.mk.injEq] at h
            obtain ⟨rfl, rfl, rfl⟩ := h
            exact ⟨rfl, by simpa [isTok] using hw, by decide⟩
          · cases h
      · simp [wordTok, hl] at h
  · unfold numTok at h
    split at h
    · rename_i hw
      simp only [Option.some.injEq, Prod.mk.injEq] at h
      obtain ⟨rfl, rfl, rfl⟩ := h
      exact ⟨rfl, by simpa [isTok] using hw, by decide⟩
    · cases h
  · cases r with
    | nil => cases h
    | cons c l =>
      by_cases hc : c.toNat = 34
      · cases e : quoteGo l with
        | none => rw [quoteTok_none (r := c :: l) e] at h; cases h
        | some p =>
          rw [quoteTok_some (r := c :: l) rfl hc e] at h
          split at h
          · rename_i h60
            simp only [Option.some.injEq, Prod.mk.injEq] at h
            obtain ⟨rfl, rfl, rfl⟩ := h
            obtain ⟨i1, i2⟩ := quoteGo_txt _ l p.1 p.2 (Nat.le_refl _) e
            have : c = 34 := UInt8.toNat_inj.1 (by rw [hc]; rfl)
            refine ⟨?_, by simp [isTok, isText, i2, h60], by decide⟩
            rw [List.take_succ_cons, i1, this]; rfl
          · cases h
      · rw [quoteTok_other (r := c :: l) rfl hc] at h; cases h
  · unfold signTok at h
    split at h
    · rename_i hw
      simp only [Option.some.injEq, Prod.mk.injEq] at h
      obtain ⟨rfl, rfl, rfl⟩ := h
      exact ⟨rfl, by simpa [isTok] using hw.2, by decide⟩
    · split at h
      · rename_i hw
        simp only [Option.some.injEq, Prod.mk.injEq] at h
        obtain ⟨rfl, rfl, rfl⟩ := h
        exact ⟨rfl, by simpa [isTok] using hw.2, by decide⟩
      · cases h

/-- The tokens from the i-th one on are those that a scan from a on gives. -/
def SJ (s : List UInt8) (i a : Nat) : Prop :=
  ∃ pre fuel, pre.length = i ∧ (tokens s).1 = pre ++ (scan s (fuel + 1) a).1 ∧ (scan s (fuel + 1) a).2 = none ∧ s.length < fuel + 1 + a ∧ a ≤ s.length

theorem SJ.start {s : List UInt8} (h : (tokens s).2 = none) : SJ s 0 0 := ⟨[], s.length, rfl, rfl, h, by omega, by omega⟩

theorem SJ.step {s : List UInt8} {i a : Nat} (h : SJ s i a) :
    (skipAt s a < s.length ∧ ∃ k t n, ∃ hi : i + 1 < (tokens s).1.length, (tokens s).1[i]'(by omega) = (k, t, skipAt s a) ∧ tokenAt (s.drop (skipAt s a)) = some (k, t, n) ∧ SJ s (i + 1) (skipAt s a + n)) ∨
    (skipAt s a = s.length ∧ ∃ hi : i + 1 = (tokens s).1.length, (tokens s).1[i]'(by omega) = (6, [], s.length)) := by
  obtain ⟨pre, fuel, rfl, h1, h2, h3, h4⟩ := h
  by_cases hlt : skipAt s a < s.length
  · refine .inl ⟨hlt, ?_⟩
    cases ht : tokenAt (s.drop (skipAt s a)) with
    | none => rw [scan_no hlt ht] at h2; cases h2
    | some v =>
      obtain ⟨k, t, n⟩ := v
      have hp := tokenAt_pos ht
      rw [List.length_drop] at hp
      have hge := skipAt_ge s a
      obtain ⟨f', rfl⟩ : ∃ f', fuel = f' + 1 := ⟨fuel - 1, by omega⟩
      rw [scan_at hlt ht] at h1 h2
      have hne : 0 < (scan s (f' + 1) (skipAt s a + n)).1.length := by
        by_cases hl2 : skipAt s (skipAt s a + n) < s.length
        · cases ht2 : tokenAt (s.drop (skipAt s (skipAt s a + n))) with
          | none => rw [scan_no hl2 ht2] at h2; cases h2
          | some v => rw [scan_at hl2 ht2]; simp
        · rw [scan_end hl2]; simp
      refine ⟨k, t, n, by rw [h1]; simp; omega, ?_, rfl, ?_⟩
      · simp only [h1]; simp
      · exact ⟨pre ++ [(k, t, skipAt s a)], f', by simp, by rw [h1]; simp, h2, by omega, by omega⟩
  · rw [scan_end hlt] at h1
    refine .inr ⟨?_, by rw [h1]; simp, by simp only [h1]; simp⟩
    have := skipAt_le h4; omega

/-- Where blanks and comments go on to p. -/
theorem skip_from {s : List UInt8} {a : Nat} : skipB false (s.drop a) = skipAt s a - a := by unfold skipAt; omega
theorem skip_round {s : List UInt8} {k p : Nat} {b : Bool} (h : skipB b (s.drop k) = p - k) (hk : k < p) (hp : p ≤ s.length) :
    ∃ hl : k < s.length, ((b = false → s[k].toNat = 35 ∨ isBlank s[k] = true)) ∧ skipB (s[k].toNat == 35 || b && !(s[k].toNat == 10)) (s.drop (k + 1)) = p - (k + 1) := by
  have hl : k < s.length := by omega
  refine ⟨hl, ?_⟩
  rw [drop_at s k hl] at h
  generalize s[k] = c at *
  cases b
  · by_cases hb : isBlank c = true
    · have h35 : (c.toNat == 35) = false := by
        rw [beq_eq_false_iff_ne]; intro e; simp [isBlank, e] at hb
      simp only [skipB, hb, if_true] at h
      refine ⟨fun _ => .inr hb, ?_⟩
      rw [h35]; simp; omega
    · by_cases h35 : (c.toNat == 35) = true
      · simp only [skipB, hb, h35, if_true] at h
        refine ⟨fun _ => .inl (by simpa using h35), ?_⟩
        rw [h35]; simp at h ⊢; omega
      · simp only [skipB, hb, h35] at h
        simp at h; omega
  · refine ⟨fun h => (by cases h), ?_⟩
    by_cases h10 : (c.toNat == 10) = true
    · have h35 : (c.toNat == 35) = false := by
        rw [beq_eq_false_iff_ne]; intro e; simp [e] at h10
      simp only [skipB, h10, if_true] at h
      rw [h35, h10]; simp; omega
    · simp only [skipB, h10] at h
      have e : (c.toNat == 35 || true && !(c.toNat == 10)) = true := by simp at h10 ⊢; omega
      rw [e]; simp at h; omega
theorem skip_done {s : List UInt8} {p : Nat} {b : Bool} (h : skipB b (s.drop p) = p - p) (hp : p < s.length) : b = false := by
  rw [drop_at s p hp] at h
  cases b
  · rfl
  · simp only [skipB] at h
    split at h <;> omega

end Go.Proofs.YtbhknpombmdhiaaDoor.Lx
