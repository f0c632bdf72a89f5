/- Plain facts about the tokens of a source behind which something stands: a line feed and more, or a comment. -/
import Derived.Test.YtbhknpombmdhiaaDoorIter
namespace Go.Proofs.YtbhknpombmdhiaaDoor.Lx

theorem run_append (p : UInt8 → Bool) (x : UInt8) (hx : p x = false) : ∀ (r t : List UInt8), run p (r ++ x :: t) = run p r
  | [], t => by simp [run, hx]
  | c :: r, t => by
    by_cases hc : p c = true
    · simp [run, hc, run_append p x hx r t]
    · simp [run, hc]

theorem take_run (p : UInt8 → Bool) (x : UInt8) (r t : List UInt8) : (r ++ x :: t).take (run p r) = r.take (run p r) :=
  List.take_append_of_le_length (run_le p r)

theorem wordTok_append {x : UInt8} (hx : isLD x = false) {r : List UInt8} (hr : r ≠ []) (t : List UInt8) : wordTok (r ++ x :: t) = wordTok r := by
  cases r with
  | nil => exact absurd rfl hr
  | cons c r =>
    have e1 := run_append isLD x hx (c :: r) t
    have e2 := take_run isLD x (c :: r) t
    have e3 : (c :: r) ++ x :: t = c :: (r ++ x :: t) := rfl
    rw [e3] at e1 e2 ⊢
    simp only [wordTok, e1, e2]

theorem numTok_append {x : UInt8} (hx : isDigit x = false) (r t : List UInt8) : numTok (r ++ x :: t) = numTok r := by
  unfold numTok
  rw [run_append isDigit x hx, take_run isDigit x]

theorem quoteGo_some : ∀ (m : Nat) (l : List UInt8) (v : List UInt8 × Nat) (y : List UInt8), l.length ≤ m → quoteGo l = some v → quoteGo (l ++ y) = some v
  | m, [], v, y, _, h => by cases h
  | 0, c :: l, v, y, hm, _ => by simp at hm
  | m + 1, c :: l, v, y, hm, h => by
    have hm' : l.length ≤ m := by simpa using hm
    by_cases h1 : c.toNat = 34
    · rw [go_close l h1] at h
      rw [List.cons_append, go_close _ h1]; exact h
    · by_cases h2 : c.toNat = 92
      · cases l with
        | nil => rw [go_cut h2] at h; cases h
        | cons d l' =>
          cases h3 : needsEsc d
          · rw [go_bad_esc l' h2 h3] at h; cases h
          · rw [go_esc l' h2 h3] at h
            rw [List.cons_append, List.cons_append, go_esc _ h2 h3]
            cases h4 : quoteGo l' with
            | none => rw [h4] at h; cases h
            | some p => rw [quoteGo_some m l' p y (by simp at hm'; omega) h4]; rw [h4] at h; exact h
      · cases h3 : isPrinted c
        · rw [go_bad l h1 h2 h3] at h; cases h
        · rw [go_plain l h1 h2 h3] at h
          rw [List.cons_append, go_plain _ h1 h2 h3]
          cases h4 : quoteGo l with
          | none => rw [h4] at h; cases h
          | some p => rw [quoteGo_some m l p y hm' h4]; rw [h4] at h; exact h

theorem quoteGo_none : ∀ (m : Nat) (l t : List UInt8), l.length ≤ m → quoteGo l = none → quoteGo (l ++ 10 :: t) = none
  | _, [], t, _, _ => by
    rw [List.nil_append]
    exact go_bad t (by decide) (by decide) (by decide)
  | 0, c :: l, t, hm, _ => by simp at hm
  | m + 1, c :: l, t, hm, h => by
    have hm' : l.length ≤ m := by simpa using hm
    by_cases h1 : c.toNat = 34
    · rw [go_close l h1] at h; cases h
    · by_cases h2 : c.toNat = 92
      · cases l with
        | nil => rw [List.cons_append, List.nil_append]; exact go_bad_esc t h2 (by decide)
        | cons d l' =>
          cases h3 : needsEsc d
          · rw [List.cons_append, List.cons_append]; exact go_bad_esc _ h2 h3
          · rw [go_esc l' h2 h3] at h
            rw [List.cons_append, List.cons_append, go_esc _ h2 h3]
            cases h4 : quoteGo l' with
            | none => rw [quoteGo_none m l' t (by simp at hm'; omega) h4]; rfl
            | some p => rw [h4] at h; cases h
      · cases h3 : isPrinted c
        · rw [List.cons_append]; exact go_bad _ h1 h2 h3
        · rw [go_plain l h1 h2 h3] at h
          rw [List.cons_append, go_plain _ h1 h2 h3]
          cases h4 : quoteGo l with
          | none => rw [quoteGo_none m l t hm' h4]; rfl
          | some p => rw [h4] at h; cases h

theorem signTok_append {x : UInt8} (hx : x = 10 ∨ x = 35) {r : List UInt8} (hr : r ≠ []) (t : List UInt8) : signTok (r ++ x :: t) = signTok r := by
  cases r with
  | nil => exact absurd rfl hr
  | cons c r =>
    cases r with
    | nil =>
      have h2 : isSign [c, x] = false := by
        rcases hx with rfl | rfl <;> simp [isSign, signList]
      have e : ([c] ++ x :: t).take 2 = [c, x] := rfl
      have e1 : ([c] ++ x :: t).take 1 = [c] := rfl
      unfold signTok
      rw [e, e1, h2]
      simp
    | cons d r =>
      have e : ((c :: d :: r) ++ x :: t).take 2 = [c, d] := rfl
      have e1 : ((c :: d :: r) ++ x :: t).take 1 = [c] := rfl
      unfold signTok
      rw [e, e1]
      simp

theorem quoteTok_some' {r : List UInt8} {v : Int × List UInt8 × Nat} (y : List UInt8) (h : quoteTok r = some v) : quoteTok (r ++ y) = some v := by
  cases r with
  | nil => cases h
  | cons c l =>
    by_cases hc : c.toNat = 34
    · cases e : quoteGo l with
      | none => rw [quoteTok_none (r := c :: l) e] at h; cases h
      | some p =>
        rw [quoteTok_some (r := c :: l) rfl hc e] at h
        rw [List.cons_append, quoteTok_some (r := c :: (l ++ y)) rfl hc (quoteGo_some _ l p y (Nat.le_refl _) e)]
        exact h
    · rw [quoteTok_other (r := c :: l) rfl hc] at h; cases h

theorem quoteTok_lf {r : List UInt8} (hr : r ≠ []) (t : List UInt8) : quoteTok (r ++ 10 :: t) = quoteTok r := by
  cases r with
  | nil => exact absurd rfl hr
  | cons c l =>
    by_cases hc : c.toNat = 34
    · cases e : quoteGo l with
      | none => rw [quoteTok_none (r := c :: l) e, List.cons_append, quoteTok_none (r := c :: (l ++ 10 :: t)) (quoteGo_none _ l t (Nat.le_refl _) e)]
      | some p => rw [quoteTok_some (r := c :: l) rfl hc e, List.cons_append, quoteTok_some (r := c :: (l ++ 10 :: t)) rfl hc (quoteGo_some _ l p _ (Nat.le_refl _) e)]
    · rw [quoteTok_other (r := c :: l) rfl hc, List.cons_append, quoteTok_other (r := c :: (l ++ 10 :: t)) rfl hc]

theorem tokenAt_lf {r : List UInt8} (hr : r ≠ []) (t : List UInt8) : tokenAt (r ++ 10 :: t) = tokenAt r := by
  unfold tokenAt
  rw [wordTok_append (by decide) hr, numTok_append (by decide), quoteTok_lf hr, signTok_append (.inl rfl) hr]

theorem tokenAt_hash {r : List UInt8} (hr : r ≠ []) (t : List UInt8) {v : Int × List UInt8 × Nat} (h : tokenAt r = some v) : tokenAt (r ++ 35 :: t) = some v := by
  unfold tokenAt at h ⊢
  rw [wordTok_append (by decide) hr, numTok_append (by decide), signTok_append (.inr rfl) hr]
  cases h1 : (wordTok r).or (numTok r) with
  | some p => rw [h1] at h; simpa using h
  | none =>
    rw [h1] at h
    cases h2 : quoteTok r with
    | some p => rw [h2] at h; rw [quoteTok_some' _ h2]; simpa using h
    | none =>
      rw [h2] at h
      have hs : signTok r = some v := by simpa using h
      have hq : quoteTok (r ++ 35 :: t) = none := by
        cases r with
        | nil => exact absurd rfl hr
        | cons c l =>
          by_cases hc : c.toNat = 34
          · exfalso
            have : signTok (c :: l) = none := by
              have e : c = 34 := UInt8.toNat_inj.1 (by rw [hc]; rfl)
              subst e
              unfold signTok
              cases l <;> simp [isSign, signList]
            rw [this] at hs; cases hs
          · rw [List.cons_append, quoteTok_other (r := c :: (l ++ 35 :: t)) rfl hc]
      rw [hq, hs]; rfl

/-- Blanks and comments to the end: and on. -/
theorem skip_through : ∀ (b : Bool) (u x : List UInt8), skipB b u = u.length → ∃ b', skipB b (u ++ x) = u.length + skipB b' x
  | b, [], x, _ => ⟨b, by simp⟩
  | true, c :: u, x, h => by
    simp only [skipB, List.length_cons] at h
    simp only [List.cons_append, skipB, List.length_cons]
    by_cases hc : (c.toNat == 10) = true
    · simp only [hc, if_true] at h ⊢
      obtain ⟨b', e⟩ := skip_through false u x (by omega)
      exact ⟨b', by omega⟩
    · simp only [hc, Bool.false_eq_true, if_false] at h ⊢
      obtain ⟨b', e⟩ := skip_through true u x (by omega)
      exact ⟨b', by omega⟩
  | false, c :: u, x, h => by
    simp only [skipB, List.length_cons] at h
    simp only [List.cons_append, skipB, List.length_cons]
    by_cases hc : isBlank c = true
    · simp only [hc, if_true] at h ⊢
      obtain ⟨b', e⟩ := skip_through false u x (by omega)
      exact ⟨b', by omega⟩
    · simp only [hc, Bool.false_eq_true, if_false] at h ⊢
      by_cases h35 : (c.toNat == 35) = true
      · simp only [h35, if_true] at h ⊢
        obtain ⟨b', e⟩ := skip_through true u x (by omega)
        exact ⟨b', by omega⟩
      · simp only [h35, Bool.false_eq_true, if_false] at h
        omega
/-- Blanks and comments that end before the end. -/
theorem skip_stops : ∀ (b : Bool) (u x : List UInt8), skipB b u < u.length → skipB b (u ++ x) = skipB b u
  | b, [], x, h => by simp at h
  | true, c :: u, x, h => by
    simp only [skipB, List.length_cons] at h
    simp only [List.cons_append, skipB]
    by_cases hc : (c.toNat == 10) = true
    · simp only [hc, if_true] at h ⊢
      rw [skip_stops false u x (by omega)]
    · simp only [hc, Bool.false_eq_true, if_false] at h ⊢
      rw [skip_stops true u x (by omega)]
  | false, c :: u, x, h => by
    simp only [skipB, List.length_cons] at h
    simp only [List.cons_append, skipB]
    by_cases hc : isBlank c = true
    · simp only [hc, if_true] at h ⊢
      rw [skip_stops false u x (by omega)]
    · simp only [hc, Bool.false_eq_true, if_false] at h ⊢
      by_cases h35 : (c.toNat == 35) = true
      · simp only [h35, if_true] at h ⊢
        rw [skip_stops true u x (by omega)]
      · simp only [h35, Bool.false_eq_true, if_false]


theorem scan_at {s : List UInt8} {f a : Nat} {k : Int} {t : List UInt8} {n : Nat} (h : skipAt s a < s.length) (ht : tokenAt (s.drop (skipAt s a)) = some (k, t, n)) :
    scan s (f + 1) a = ((k, t, skipAt s a) :: (scan s f (skipAt s a + n)).1, (scan s f (skipAt s a + n)).2) := by
  conv => lhs; unfold scan
  rw [if_pos h, ht]
theorem scan_no {s : List UInt8} {f a : Nat} (h : skipAt s a < s.length) (ht : tokenAt (s.drop (skipAt s a)) = none) : scan s (f + 1) a = ([], some (skipAt s a)) := by
  conv => lhs; unfold scan
  rw [if_pos h, ht]
theorem scan_end {s : List UInt8} {f a : Nat} (h : ¬ skipAt s a < s.length) : scan s (f + 1) a = ([(6, [], s.length)], none) := by
  conv => lhs; unfold scan
  rw [if_neg h]

theorem drop_ne {s : List UInt8} {a : Nat} (h : a < s.length) : s.drop a ≠ [] := by
  intro e
  have : (s.drop a).length = 0 := by rw [e]; rfl
  rw [List.length_drop] at this; omega

theorem skipAt_stops {s : List UInt8} {a : Nat} (x : List UInt8) (ha : a ≤ s.length) (h : skipAt s a < s.length) : skipAt (s ++ x) a = skipAt s a := by
  unfold skipAt at h ⊢
  rw [List.drop_append_of_le_length ha, skip_stops false _ x (by rw [List.length_drop]; omega)]

/-- The tokens of a source that is whole come first, whatever stands behind it, if that changes no token. -/
theorem scan_pre {s : List UInt8} {x : UInt8} {y : List UInt8} (hg : ∀ r v, r ≠ [] → tokenAt r = some v → tokenAt (r ++ x :: y) = some v) :
    ∀ (f a0 : Nat), a0 ≤ s.length → s.length < f + a0 → ∀ g, (s ++ x :: y).length < g + a0 → (scan s f a0).2 = none →
      ∃ pre a1 g1, a1 ≤ s.length ∧ skipB false (s.drop a1) = (s.drop a1).length ∧ (s ++ x :: y).length < g1 + a1 ∧ (scan s f a0).1 = pre ++ [(6, [], s.length)] ∧
        scan (s ++ x :: y) g a0 = (pre ++ (scan (s ++ x :: y) g1 a1).1, (scan (s ++ x :: y) g1 a1).2)
  | 0, a0, h0, hf, _, _, _ => by omega
  | f + 1, a0, h0, hf, g, hgl, hn => by
    by_cases h : skipAt s a0 < s.length
    · cases ht : tokenAt (s.drop (skipAt s a0)) with
      | none => rw [scan_no h ht] at hn; cases hn
      | some v =>
        obtain ⟨k, t, n⟩ := v
        have hp := tokenAt_pos ht
        rw [List.length_drop] at hp
        have hge := skipAt_ge s a0
        obtain ⟨g', rfl⟩ : ∃ g', g = g' + 1 := ⟨g - 1, by simp at hgl; omega⟩
        rw [scan_at h ht] at hn ⊢
        obtain ⟨pre, a1, g1, h1, h2, h3, h4, h5⟩ := scan_pre hg f (skipAt s a0 + n) (by omega) (by omega) g' (by omega) hn
        refine ⟨(k, t, skipAt s a0) :: pre, a1, g1, h1, h2, h3, by rw [h4]; rfl, ?_⟩
        have e := skipAt_stops (x :: y) h0 h
        rw [scan_at (by rw [e]; simp; omega) (by rw [e, List.drop_append_of_le_length (by omega)]; exact hg _ _ (drop_ne h) ht), e, h5]
        rfl
    · refine ⟨[], a0, g, h0, ?_, hgl, by rw [scan_end h]; rfl, by simp⟩
      have := skip_le false (s.drop a0)
      unfold skipAt at h
      rw [List.length_drop] at this ⊢
      omega

/-- Where a source is wrong it stays so behind a line feed and more. -/
theorem scan_bad {s y : List UInt8} : ∀ (f a0 : Nat), a0 ≤ s.length → s.length < f + a0 → ∀ g, (s ++ 10 :: y).length < g + a0 → ∀ p, (scan s f a0).2 = some p → (scan (s ++ 10 :: y) g a0).2 = some p
  | 0, a0, h0, hf, _, _, _, _ => by omega
  | f + 1, a0, h0, hf, g, hgl, p, hn => by
    obtain ⟨g', rfl⟩ : ∃ g', g = g' + 1 := ⟨g - 1, by simp at hgl; omega⟩
    by_cases h : skipAt s a0 < s.length
    · have e := skipAt_stops (10 :: y) h0 h
      have ed : (s ++ 10 :: y).drop (skipAt s a0) = s.drop (skipAt s a0) ++ 10 :: y := List.drop_append_of_le_length (by omega)
      have et := tokenAt_lf (drop_ne h) y
      cases ht : tokenAt (s.drop (skipAt s a0)) with
      | none =>
        rw [scan_no h ht] at hn
        rw [scan_no (by rw [e]; simp; omega) (by rw [e, ed, et]; exact ht), e]; exact hn
      | some v =>
        obtain ⟨k, t, n⟩ := v
        have hp := tokenAt_pos ht
        rw [List.length_drop] at hp
        have hge := skipAt_ge s a0
        rw [scan_at h ht] at hn
        rw [scan_at (by rw [e]; simp; omega) (by rw [e, ed, et]; exact ht), e]
        exact scan_bad f _ (by omega) (by omega) g' (by omega) p hn
    · rw [scan_end h] at hn; cases hn

theorem scan_fuel {s : List UInt8} : ∀ (f g a : Nat), a ≤ s.length → s.length < f + a → s.length < g + a → scan s f a = scan s g a
  | 0, _, a, _, _, _ => by omega
  | _, 0, a, _, _, _ => by omega
  | f + 1, g + 1, a, ha, hf, hg => by
    by_cases h : skipAt s a < s.length
    · cases ht : tokenAt (s.drop (skipAt s a)) with
      | none => rw [scan_no h ht, scan_no h ht]
      | some v =>
        obtain ⟨k, t, n⟩ := v
        have hp := tokenAt_pos ht
        rw [List.length_drop] at hp
        have hge := skipAt_ge s a
        rw [scan_at h ht, scan_at h ht, scan_fuel f g _ (by omega) (by omega) (by omega)]
    · rw [scan_end h, scan_end h]

/-- The tokens of a source with a comment and a line feed behind it. -/
theorem tokens_comment {s c : List UInt8} {l : List Tok} (hc : c.all notLF = true) (h : tokens s = (l, none)) :
    ∃ pre, l = pre ++ [(6, [], s.length)] ∧ tokens (s ++ 35 :: (c ++ [10])) = (pre ++ [(6, [], (s ++ 35 :: (c ++ [10])).length)], none) := by
  have hall : ∀ (b : Bool) (c : List UInt8), c.all notLF = true → skipB true (c ++ [10]) = c.length + 1 := by
    intro b c
    induction c with
    | nil => intro _; rfl
    | cons d c ih =>
      intro h
      simp only [List.all_cons, Bool.and_eq_true] at h
      have hd : (d.toNat == 10) = false := by
        have := h.1; simp only [notLF] at this; revert this; cases (d.toNat == 10) <;> simp
      simp only [List.cons_append, skipB, hd, Bool.false_eq_true, if_false, List.length_cons]
      rw [ih h.2]
  obtain ⟨pre, a1, g1, h1, h2, h3, h4, h5⟩ := scan_pre (s := s) (x := 35) (y := c ++ [10]) (fun r v hr hv => tokenAt_hash hr _ hv) (s.length + 1) 0 (by omega) (by omega) ((s ++ 35 :: (c ++ [10])).length + 1) (by omega) (by have := h; unfold tokens at this; rw [this])
  have hl : l = pre ++ [(6, [], s.length)] := by rw [← h4]; have := h; unfold tokens at this; rw [this]
  refine ⟨pre, hl, ?_⟩
  have hsk : skipAt (s ++ 35 :: (c ++ [10])) a1 = (s ++ 35 :: (c ++ [10])).length := by
    unfold skipAt
    rw [List.drop_append_of_le_length h1]
    obtain ⟨b', e⟩ := skip_through false (s.drop a1) (35 :: (c ++ [10])) h2
    rw [e, List.length_drop]
    have : skipB b' (35 :: (c ++ [10])) = c.length + 2 := by
      cases b'
      · have hb : isBlank 35 = false := by decide
        simp only [skipB, hb, Bool.false_eq_true, if_false]
        rw [hall true c hc]; simp
      · have hb : ((35 : UInt8).toNat == 10) = false := by decide
        simp only [skipB, hb, Bool.false_eq_true, if_false]
        rw [hall true c hc]
    rw [this]; simp; omega
  obtain ⟨g', rfl⟩ : ∃ g', g1 = g' + 1 := ⟨g1 - 1, by simp at h3; omega⟩
  unfold tokens
  rw [h5, scan_end (by rw [hsk]; omega)]

end Go.Proofs.YtbhknpombmdhiaaDoor.Lx
