/- Plain facts about the tokens of two sources with a line feed between them. -/
import Derived.Test.YtbhknpombmdhiaaDoorCat
namespace Go.Proofs.YtbhknpombmdhiaaDoor.Lx

/-- A token moved on by n bytes. -/
def moved (n : Nat) (x : Tok) : Tok := (x.1, x.2.1, n + x.2.2)

theorem skipAt_shift (p t : List UInt8) (a : Nat) : skipAt (p ++ t) (p.length + a) = p.length + skipAt t a := by
  unfold skipAt
  rw [List.drop_length_add_append]; omega

theorem scan_shift (p t : List UInt8) : ∀ (f a : Nat), scan (p ++ t) f (p.length + a) = ((scan t f a).1.map (moved p.length), (scan t f a).2.map (p.length + ·))
  | 0, a => rfl
  | f + 1, a => by
    have e := skipAt_shift p t a
    by_cases h : skipAt t a < t.length
    · have h' : skipAt (p ++ t) (p.length + a) < (p ++ t).length := by rw [e]; simp; omega
      have ed : (p ++ t).drop (skipAt (p ++ t) (p.length + a)) = t.drop (skipAt t a) := by rw [e, List.drop_length_add_append]
      cases ht : tokenAt (t.drop (skipAt t a)) with
      | none => rw [scan_no h ht, scan_no h' (by rw [ed]; exact ht), e]; rfl
      | some v =>
        obtain ⟨k, tx, n⟩ := v
        rw [scan_at h ht, scan_at h' (by rw [ed]; exact ht), e, Nat.add_assoc, scan_shift p t f]
        rfl
    · have h' : ¬ skipAt (p ++ t) (p.length + a) < (p ++ t).length := by rw [e]; simp; omega
      rw [scan_end h, scan_end h']
      simp [moved]

theorem scan_same {s : List UInt8} {f a b : Nat} (h : skipAt s a = skipAt s b) : scan s (f + 1) a = scan s (f + 1) b := by
  unfold scan
  rw [h]

theorem tokens_parts {s : List UInt8} {l : List Tok} (t : List UInt8) (h : tokens s = (l, none)) :
    ∃ pre, l = pre ++ [(6, [], s.length)] ∧ tokens (s ++ 10 :: t) = (pre ++ (tokens t).1.map (moved (s.length + 1)), (tokens t).2.map (s.length + 1 + ·)) := by
  obtain ⟨pre, a1, g1, h1, h2, h3, h4, h5⟩ := scan_pre (s := s) (x := 10) (y := t) (fun r v hr hv => (tokenAt_lf hr _).trans hv) (s.length + 1) 0 (by omega) (by omega) ((s ++ 10 :: t).length + 1) (by omega) (by have := h; unfold tokens at this; rw [this])
  have hl : l = pre ++ [(6, [], s.length)] := by rw [← h4]; have := h; unfold tokens at this; rw [this]
  refine ⟨pre, hl, ?_⟩
  have es : s ++ 10 :: t = (s ++ [10]) ++ t := by simp
  have eL : (s ++ [10]).length = s.length + 1 := by simp
  have hsk : skipAt (s ++ 10 :: t) a1 = skipAt (s ++ 10 :: t) (s.length + 1) := by
    have r : skipAt (s ++ 10 :: t) (s.length + 1) = s.length + 1 + skipB false t := by
      have := skipAt_shift (s ++ [10]) t 0
      rw [← es, eL] at this
      simp [skipAt]
    rw [r]
    unfold skipAt
    rw [List.drop_append_of_le_length h1]
    obtain ⟨b', e⟩ := skip_through false (s.drop a1) (10 :: t) h2
    rw [e, List.length_drop]
    have : skipB b' (10 :: t) = skipB false t + 1 := by
      cases b'
      · have hb : isBlank 10 = true := by decide
        simp only [skipB, hb, if_true]
      · have hb : ((10 : UInt8).toNat == 10) = true := by decide
        simp only [skipB, hb, if_true]
    rw [this]; omega
  obtain ⟨g', rfl⟩ : ∃ g', g1 = g' + 1 := ⟨g1 - 1, by simp at h3; omega⟩
  have hL : (s ++ 10 :: t).length = s.length + (t.length + 1) := by simp
  unfold tokens
  rw [h5, scan_same hsk, scan_fuel (g' + 1) ((t.length + 1)) (s.length + 1) (by omega) (by omega) (by omega)]
  have := scan_shift (s ++ [10]) t (t.length + 1) 0
  rw [← es, eL] at this
  rw [Nat.add_zero] at this
  rw [this]

theorem tokens_bad {s : List UInt8} (t : List UInt8) {p : Nat} (h : (tokens s).2 = some p) : (tokens (s ++ 10 :: t)).2 = some p :=
  scan_bad (s.length + 1) 0 (by omega) (by omega) _ (by omega) p h

theorem scan_err {s : List UInt8} {p : Nat} : ∀ (f a : Nat), (scan s f a).2 = some p → p < s.length
  | 0, a, h => by cases h
  | f + 1, a, h => by
    by_cases hs : skipAt s a < s.length
    · cases ht : tokenAt (s.drop (skipAt s a)) with
      | none => rw [scan_no hs ht] at h; cases h; exact hs
      | some v =>
        obtain ⟨k, t, n⟩ := v
        rw [scan_at hs ht] at h
        exact scan_err f _ h
    · rw [scan_end hs] at h; cases h

theorem scan_le {s : List UInt8} : ∀ (f a : Nat), ∀ x ∈ (scan s f a).1, x.2.2 ≤ s.length
  | 0, a, x, h => by cases h
  | f + 1, a, x, h => by
    by_cases hs : skipAt s a < s.length
    · cases ht : tokenAt (s.drop (skipAt s a)) with
      | none => rw [scan_no hs ht] at h; cases h
      | some v =>
        obtain ⟨k, t, n⟩ := v
        rw [scan_at hs ht] at h
        rcases List.mem_cons.1 h with rfl | h
        · exact Nat.le_of_lt hs
        · exact scan_le f _ x h
    · rw [scan_end hs] at h
      rcases List.mem_cons.1 h with rfl | h
      · exact Nat.le_refl _
      · cases h

theorem scan_len {s : List UInt8} : ∀ (f a : Nat), (scan s f a).1.length ≤ f
  | 0, a => Nat.le_refl _
  | f + 1, a => by
    by_cases hs : skipAt s a < s.length
    · cases ht : tokenAt (s.drop (skipAt s a)) with
      | none => rw [scan_no hs ht]; exact Nat.zero_le _
      | some v =>
        obtain ⟨k, t, n⟩ := v
        rw [scan_at hs ht]
        exact Nat.succ_le_succ (scan_len f _)
    · rw [scan_end hs]; simp

end Go.Proofs.YtbhknpombmdhiaaDoor.Lx
