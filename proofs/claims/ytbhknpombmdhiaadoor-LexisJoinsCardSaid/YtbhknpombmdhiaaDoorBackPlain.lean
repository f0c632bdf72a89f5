/- Plain facts: the texts of tokens with blanks between them have the same tokens. -/
import Derived.Test.YtbhknpombmdhiaaDoorJoiner
namespace Go.Proofs.YtbhknpombmdhiaaDoor.Lx

/-- Tokens before the end, each at its place. -/
theorem scan_shape {s : List UInt8} : ∀ (f a : Nat), a ≤ s.length → s.length < f + a → (scan s f a).2 = none →
    ∃ pre, (scan s f a).1 = pre ++ [(6, [], s.length)] ∧ ∀ x ∈ pre, ∃ n, tokenAt (s.drop x.2.2) = some (x.1, x.2.1, n)
  | 0, a, ha, hf, _ => by omega
  | f + 1, a, ha, hf, hn => by
    by_cases h : skipAt s a < s.length
    · cases ht : tokenAt (s.drop (skipAt s a)) with
      | none => rw [scan_no h ht] at hn; cases hn
      | some v =>
        obtain ⟨k, t, n⟩ := v
        have hp := tokenAt_pos ht
        rw [List.length_drop] at hp
        have hge := skipAt_ge s a
        rw [scan_at h ht] at hn ⊢
        obtain ⟨pre, e, hall⟩ := scan_shape f (skipAt s a + n) (by omega) (by omega) hn
        refine ⟨(k, t, skipAt s a) :: pre, by rw [e]; rfl, fun x hx => ?_⟩
        rcases List.mem_cons.1 hx with rfl | hx
        · exact ⟨n, ht⟩
        · exact hall x hx
    · exact ⟨[], by rw [scan_end h]; rfl, fun x hx => by cases hx⟩

/-- A token before the end. -/
def good (x : Int × List UInt8) : Prop := isTok x.1 x.2 = true ∧ ¬ x.1 = 6
/-- The texts of tokens, with a blank between each two. -/
def jt : List (Int × List UInt8) → List UInt8
  | [] => []
  | [x] => txt x.1 x.2
  | x :: y :: r => txt x.1 x.2 ++ 32 :: jt (y :: r)

theorem signTok_blank {r : List UInt8} (hr : r ≠ []) (t : List UInt8) : signTok (r ++ 32 :: t) = signTok r := by
  cases r with
  | nil => exact absurd rfl hr
  | cons c r =>
    cases r with
    | nil =>
      have h2 : isSign [c, 32] = false := by simp [isSign, signList]
      have e : ([c] ++ 32 :: t).take 2 = [c, 32] := rfl
      have e1 : ([c] ++ 32 :: t).take 1 = [c] := rfl
      unfold signTok
      rw [e, e1, h2]
      simp
    | cons d r =>
      have e : ((c :: d :: r) ++ 32 :: t).take 2 = [c, d] := rfl
      have e1 : ((c :: d :: r) ++ 32 :: t).take 1 = [c] := rfl
      unfold signTok
      rw [e, e1]
      simp

theorem tokenAt_blank {r : List UInt8} (hr : r ≠ []) (t : List UInt8) {v : Int × List UInt8 × Nat} (h : tokenAt r = some v) : tokenAt (r ++ 32 :: t) = some v := by
  cases r with
  | nil => exact absurd rfl hr
  | cons c l =>
    by_cases hc : c.toNat = 34
    · rw [tokenAt_quote (r := c :: l) rfl hc] at h
      rw [List.cons_append, tokenAt_quote (r := c :: (l ++ 32 :: t)) rfl hc]
      exact quoteTok_some' (r := c :: l) _ h
    · unfold tokenAt at h ⊢
      rw [wordTok_append (by decide) hr, numTok_append (by decide), signTok_blank hr]
      rw [quoteTok_other (r := c :: l) rfl hc] at h
      rw [List.cons_append, quoteTok_other (r := c :: (l ++ 32 :: t)) rfl hc]
      exact h

theorem quoteGo_esc : ∀ (t y : List UInt8), t.all isPrinted = true → quoteGo (esc t ++ 34 :: y) = some (t, (esc t).length + 1)
  | [], y, _ => go_close y (by decide)
  | c :: t, y, h => by
    simp only [List.all_cons, Bool.and_eq_true] at h
    have ih := quoteGo_esc t y h.2
    cases hn : needsEsc c
    · have e : esc (c :: t) = c :: esc t := by simp [esc, hn]
      have h34 : ¬ c.toNat = 34 := by intro h; simp [needsEsc, h] at hn
      have h92 : ¬ c.toNat = 92 := by intro h; simp [needsEsc, h] at hn
      rw [e, List.cons_append, go_plain _ h34 h92 h.1, ih]
      simp
    · have e : esc (c :: t) = 92 :: c :: esc t := by simp [esc, hn]
      rw [e, List.cons_append, List.cons_append, go_esc _ (by decide) hn, ih]
      simp

theorem words_runs : (wordList.all fun x => (match x with | [] => false | c :: _ => isLetter c) && (run isLD x == x.length)) = true := by decide +kernel
theorem signs_tokens : ∀ x ∈ signList, tokenAt x = some (4, x, x.length) := by decide +kernel

theorem tokenAt_text {k : Int} {t : List UInt8} (h : good (k, t)) : tokenAt (txt k t) = some (k, t, (txt k t).length) := by
  obtain ⟨h, h6⟩ := h
  simp only [isTok] at h
  by_cases h1 : k = 1
  · subst h1
    rw [if_pos rfl] at h
    have e : txt 1 t = t := by simp [txt]
    rw [e]
    cases t with
    | nil => simp [isName] at h
    | cons c l =>
      simp only [isName, Bool.and_eq_true, decide_eq_true_eq, beq_iff_eq, Bool.not_eq_true'] at h
      obtain ⟨⟨⟨h12, hl⟩, hr⟩, hw⟩ := h
      have hn : isName (c :: l) = true := by
        simp only [isName, Bool.and_eq_true, decide_eq_true_eq, beq_iff_eq, Bool.not_eq_true']
        exact ⟨⟨⟨h12, hl⟩, hr⟩, hw⟩
      rw [tokenAt_letter (r := c :: l) rfl hl, hr, List.take_length, hw, hn]
      rfl
  rw [if_neg h1] at h
  by_cases h2 : k = 2
  · subst h2
    rw [if_pos rfl] at h
    have e : txt 2 t = t := by simp [txt]
    rw [e]
    cases t with
    | nil => simp [isNumeral] at h
    | cons c l =>
      have hr : run isDigit (c :: l) = (c :: l).length := by
        have h' := h
        simp only [isNumeral, Bool.and_eq_true, beq_iff_eq] at h'
        exact h'.1.1
      have hd : isDigit c = true := by
        cases hd : isDigit c
        · simp [run, hd] at hr
        · rfl
      have hl : isLetter c = false := by
        cases hl : isLetter c
        · rfl
        · have := (digit_other hl).1; rw [hd] at this; cases this
      rw [tokenAt_digit (r := c :: l) rfl hl hd, hr, List.take_length, h]
      rfl
  rw [if_neg h2] at h
  by_cases h3 : k = 3
  · subst h3
    rw [if_pos rfl] at h
    simp only [isText, Bool.and_eq_true, decide_eq_true_eq] at h
    have e : txt 3 t = 34 :: (esc t ++ [34]) := by simp [txt]
    rw [e, tokenAt_quote (r := 34 :: (esc t ++ [34])) rfl (by decide), quoteTok_some (r := 34 :: (esc t ++ [34])) rfl (by decide) (quoteGo_esc t [] h.1), if_pos h.2]
    simp
  rw [if_neg h3] at h
  by_cases h4 : k = 4
  · subst h4
    rw [if_pos rfl] at h
    have e : txt 4 t = t := by simp [txt]
    rw [e]
    exact signs_tokens t (by simpa [isSign] using h)
  rw [if_neg h4] at h
  by_cases h5 : k = 5
  · subst h5
    rw [if_pos rfl] at h
    have e : txt 5 t = t := by simp [txt]
    rw [e]
    have hm : t ∈ wordList := by
      have h' := h
      rw [isWord_list] at h'
      simpa using h'
    have hw := List.all_eq_true.1 words_runs t hm
    cases t with
    | nil => simp at hw
    | cons c l =>
      simp only [Bool.and_eq_true, beq_iff_eq] at hw
      rw [tokenAt_letter (r := c :: l) rfl hw.1, hw.2, List.take_length, h]
      rfl
  rw [if_neg h5, decide_eq_false h6] at h
  cases h

def bad0 (c : UInt8) : Bool := isBlank c || c.toNat == 35
theorem sign_bad0 : (signList.all fun x => match x with | [] => false | c :: _ => !bad0 c) = true := by decide +kernel
theorem tokenAt_bad0 {c : UInt8} (l : List UInt8) (h : bad0 c = true) : tokenAt (c :: l) = none := by
  have hc : ¬ isLetter c = true ∧ ¬ isDigit c = true ∧ ¬ c.toNat = 34 := by
    simp [bad0, isBlank] at h
    simp [isLetter, isDigit]
    omega
  have hs : ∀ m, isSign (c :: m) = false := fun m => by
    cases e : isSign (c :: m)
    · rfl
    · have hm : (c :: m) ∈ signList := by simpa [isSign] using e
      have := List.all_eq_true.1 sign_bad0 _ hm
      simp [h] at this
  rw [tokenAt_sign (r := c :: l) rfl (Bool.eq_false_iff.2 hc.1) (Bool.eq_false_iff.2 hc.2.1) hc.2.2]
  unfold signTok
  have e2 : (c :: l).take 2 = c :: l.take 1 := rfl
  have e1 : (c :: l).take 1 = c :: l.take 0 := rfl
  rw [e2, e1, hs, hs]
  simp
theorem skip_token {s : List UInt8} {a : Nat} {v : Int × List UInt8 × Nat} (h : tokenAt (s.drop a) = some v) : skipAt s a = a ∧ a < s.length := by
  have ha : a < s.length := by
    rcases Nat.lt_or_ge a s.length with h' | h'
    · exact h'
    · rw [List.drop_of_length_le h'] at h; cases h
  refine ⟨?_, ha⟩
  rw [drop_at s a ha] at h
  have hb : bad0 s[a] = false := by
    cases hb : bad0 s[a]
    · rfl
    · rw [tokenAt_bad0 _ hb] at h; cases h
  simp only [bad0, Bool.or_eq_false_iff] at hb
  exact skip_none ha hb.1 (by simpa using hb.2)

theorem scan_skip {s : List UInt8} {f a b : Nat} (h : skipAt s a = skipAt s b) : scan s f a = scan s f b := by
  cases f with
  | zero => rfl
  | succ f => simp only [scan, h]

theorem scan_jt : ∀ (M : List (Int × List UInt8)), (∀ x ∈ M, good x) → ∀ (s : List UInt8) (f a : Nat), a ≤ s.length → s.length < f + a → s.drop a = jt M →
    ∃ pre, scan s f a = (pre ++ [(6, [], s.length)], none) ∧ pre.map bare = M
  | M, hM, s, 0, a, ha, hf, hd => by omega
  | [], hM, s, f + 1, a, ha, hf, hd => by
    have hl : s.length ≤ a := by
      have := congrArg List.length hd
      rw [List.length_drop] at this
      simp [jt] at this; omega
    exact ⟨[], by rw [scan_end (by rw [skip_end hl]; omega)]; rfl, rfl⟩
  | [x], hM, s, f + 1, a, ha, hf, hd => by
    obtain ⟨k, t⟩ := x
    have ht : tokenAt (s.drop a) = some (k, t, (txt k t).length) := by rw [hd]; exact tokenAt_text (hM _ (by simp))
    obtain ⟨h1, h2⟩ := skip_token ht
    have hp := tokenAt_pos ht
    rw [List.length_drop] at hp
    have ht' := ht
    rw [← h1] at ht'
    have hl : s.length ≤ a + (txt k t).length := by
      have := congrArg List.length hd
      rw [List.length_drop] at this
      simp [jt] at this; omega
    obtain ⟨f', rfl⟩ : ∃ f', f = f' + 1 := ⟨f - 1, by omega⟩
    refine ⟨[(k, t, a)], ?_, rfl⟩
    rw [scan_at (by rw [h1]; exact h2) ht', h1, scan_end (by rw [skip_end hl]; omega)]
    rfl
  | x :: y :: r, hM, s, f + 1, a, ha, hf, hd => by
    obtain ⟨k, t⟩ := x
    have htx := tokenAt_text (hM (k, t) (by simp))
    have hne : txt k t ≠ [] := by
      intro e; rw [e] at htx; cases htx
    have hd' : s.drop a = txt k t ++ 32 :: jt (y :: r) := hd
    have ht : tokenAt (s.drop a) = some (k, t, (txt k t).length) := by rw [hd']; exact tokenAt_blank hne _ htx
    obtain ⟨h1, h2⟩ := skip_token ht
    have hp := tokenAt_pos ht
    rw [List.length_drop] at hp
    have ht' := ht
    rw [← h1] at ht'
    have hlen := congrArg List.length hd'
    rw [List.length_drop, List.length_append, List.length_cons] at hlen
    have hd2 : s.drop (a + (txt k t).length) = 32 :: jt (y :: r) := by
      rw [← List.drop_drop, hd', List.drop_left]
    have hd3 : s.drop (a + (txt k t).length + 1) = jt (y :: r) := by
      rw [← List.drop_drop, hd2]; rfl
    have hlt : a + (txt k t).length < s.length := by omega
    have hb : isBlank (s[a + (txt k t).length]'hlt) = true := by
      rw [drop_at s _ hlt] at hd2
      rw [(List.cons.inj hd2).1]; decide
    obtain ⟨pre, e, em⟩ := scan_jt (y :: r) (fun z hz => hM z (List.mem_cons_of_mem _ hz)) s f (a + (txt k t).length + 1) (by omega) (by omega) hd3
    refine ⟨(k, t, a) :: pre, ?_, by rw [List.map_cons, em]; rfl⟩
    rw [scan_at (by rw [h1]; exact h2) ht', h1, scan_skip (skip_blank hlt hb), e]
    rfl

theorem tokens_jt {M : List (Int × List UInt8)} (hM : ∀ x ∈ M, good x) : ∃ pre, tokens (jt M) = (pre ++ [(6, [], (jt M).length)], none) ∧ pre.map bare = M :=
  scan_jt M hM (jt M) _ 0 (by omega) (by omega) rfl

theorem joinGo_cons {acc : List UInt8} {f : Bool} {x : Int × List UInt8} {r : List (Int × List UInt8)} (h : good x) :
    joinGo acc f (x :: r) = if (acc ++ ((if f then [] else [32]) ++ txt x.1 x.2)).length ≤ 4000 then joinGo (acc ++ ((if f then [] else [32]) ++ txt x.1 x.2)) false r else none := by
  obtain ⟨k, t⟩ := x
  conv => lhs; unfold joinGo
  rw [if_neg (fun e => h.2 e.1), if_pos]
  rw [h.1, decide_eq_false h.2]; rfl

theorem joinGo_good {M : List (Int × List UInt8)} : ∀ (acc : List UInt8) (f : Bool), (∀ x ∈ M, good x) → joinGo acc f (M ++ [(6, [])]) = joinGo acc f M := by
  induction M with
  | nil => intro acc f _; simp [joinGo]
  | cons x r ih =>
    intro acc f h
    have hx := h x (by simp)
    rw [List.cons_append, joinGo_cons hx, joinGo_cons hx, ih _ _ (fun y hy => h y (List.mem_cons_of_mem _ hy))]

theorem joinGo_some {M : List (Int × List UInt8)} : ∀ (acc : List UInt8) (f : Bool) (u : List UInt8), (∀ x ∈ M, good x) → acc.length ≤ 4000 → joinGo acc f M = some u →
    u = acc ++ (if M = [] then [] else (if f then [] else [32]) ++ jt M) ∧ u.length ≤ 4000 := by
  induction M with
  | nil => intro acc f u _ hl h; simp [joinGo] at h; subst h; simpa using hl
  | cons x r ih =>
    intro acc f u h hl hj
    have hx := h x (by simp)
    rw [joinGo_cons hx] at hj
    by_cases hlen : (acc ++ ((if f then [] else [32]) ++ txt x.1 x.2)).length ≤ 4000
    · rw [if_pos hlen] at hj
      obtain ⟨e, e2⟩ := ih _ false u (fun y hy => h y (List.mem_cons_of_mem _ hy)) hlen hj
      refine ⟨?_, e2⟩
      rw [e]
      cases r with
      | nil => simp [jt]
      | cons y r => simp [jt]
    · rw [if_neg hlen] at hj; cases hj

end Go.Proofs.YtbhknpombmdhiaaDoor.Lx
