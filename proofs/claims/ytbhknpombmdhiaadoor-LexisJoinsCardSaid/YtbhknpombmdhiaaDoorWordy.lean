/- Plain facts: the list of the words, and which strings are words. -/
import Derived.Test.YtbhknpombmdhiaaDoorCat
namespace Go.Proofs.YtbhknpombmdhiaaDoor.Lx
open Go.Lib

def notB (c : UInt8) : Bool := !(c.toNat == 32)
/-- What stands between a blank and the next one. -/
def pieces : List UInt8 → List (List UInt8)
  | [] => []
  | c :: l => if c.toNat == 32 && decide (run notB l < l.length) then l.take (run notB l) :: pieces l else pieces l

/-- The words, in ascending order. -/
def wordList : List (List UInt8) := [[97, 102, 116, 101, 114], [97, 119, 97, 105, 116], [98, 111, 111, 108], [98, 114, 101, 97, 107], [98, 117, 102, 102, 101, 114], [99, 97, 110, 99, 101, 108], [99, 97, 116, 99, 104], [99, 104, 97, 110], [99, 108, 111, 115, 101], [99, 111, 110, 116, 105, 110, 117, 101], [100, 114, 111, 112], [101, 97, 99, 104], [101, 108, 115, 101], [101, 109, 105, 116], [102, 97, 108, 115, 101], [102, 105, 110, 97, 108, 108, 121], [102, 108, 111, 119], [102, 110], [102, 114, 111, 109], [104, 111, 108, 100], [105, 102], [105, 110, 116], [108, 101, 116], [108, 111, 99, 107], [110, 101, 119], [110, 111, 119], [111, 108, 100], [112, 114, 111, 100, 117, 99, 101], [114, 101, 99, 101, 105, 118, 101], [114, 101, 116, 117, 114, 110], [115, 99, 111, 112, 101], [115, 101, 108, 101, 99, 116], [115, 101, 110, 100], [115, 104, 105, 101, 108, 100], [115, 108, 101, 101, 112], [115, 112, 97, 119, 110], [115, 117, 112, 101, 114, 118, 105, 115, 101, 100], [116, 97, 115, 107], [116, 101, 120, 116], [116, 104, 114, 111, 119], [116, 114, 117, 101], [116, 114, 121], [117, 115, 101], [119, 104, 105, 108, 101], [119, 105, 116, 104, 105, 110], [121, 105, 101, 108, 100]]

set_option maxRecDepth 100000 in
theorem pieces_words : pieces words = wordList := by decide +kernel

theorem occ_piece : ∀ (l s : List UInt8) (j : Nat), occAt l ([32] ++ s ++ [32]) j = true → run notB s = s.length → s ∈ pieces l
  | [], s, j, h, _ => by simp [occAt] at h
  | c :: l, s, 0, h, hs => by
    unfold occAt at h
    rw [List.drop_zero, List.isPrefixOf_iff_prefix] at h
    obtain ⟨t, e⟩ := h
    have e1 : (32 : UInt8) :: (s ++ 32 :: t) = c :: l := by rw [← e]; simp
    obtain ⟨rfl, rfl⟩ := List.cons.inj e1
    have er : run notB (s ++ 32 :: t) = s.length := by rw [run_append notB 32 (by decide), hs]
    have eq : pieces (32 :: (s ++ 32 :: t)) = s :: pieces (s ++ 32 :: t) := by
      conv => lhs; unfold pieces
      rw [er]
      have : decide (s.length < (s ++ 32 :: t).length) = true := by simp
      rw [this]
      simp
    rw [eq]; exact List.mem_cons_self
  | c :: l, s, j + 1, h, hs => by
    have h' : occAt l ([32] ++ s ++ [32]) j = true := by simpa [occAt] using h
    have ih := occ_piece l s j h' hs
    unfold pieces
    split
    · exact List.mem_cons_of_mem _ ih
    · exact ih

theorem run_of_none {s : List UInt8} (h : contains s [32] = false) : run notB s = s.length := by
  have h1 : ¬ 0 ≤ index s [32] := by simpa [contains] using h
  have h2 : indexByte s 32 = -1 := by
    have := index_ge s [32]
    rw [index_one] at this h1
    omega
  have h3 := indexByte_none h2
  rcases Nat.lt_or_ge (run notB s) s.length with hl | hg
  · exfalso
    have e := run_stop notB s hl
    have : s[run notB s] = 32 := UInt8.toNat_inj.1 (by simpa [notB] using e)
    exact h3 (run notB s) (by rw [List.getElem?_eq_getElem hl, this])
  · have := run_le notB s
    omega

set_option maxRecDepth 100000 in
theorem words_are : ∀ x ∈ wordList, isWord x = true := by decide +kernel
set_option maxRecDepth 100000 in
theorem words_no_names : ∀ x ∈ wordList, isName x = false := by decide +kernel

theorem isWord_list (s : List UInt8) : isWord s = wordList.contains s := by
  cases hc : wordList.contains s
  · cases hw : isWord s
    · rfl
    · exfalso
      unfold isWord at hw
      simp only [Bool.and_eq_true, Bool.not_eq_true'] at hw
      have hr := run_of_none hw.1
      have hi : 0 ≤ index words ([32] ++ s ++ [32]) := by simpa [contains] using hw.2
      rcases index_spec words ([32] ++ s ++ [32]) with ⟨h1, _⟩ | ⟨i, _, _, h3, _⟩
      · omega
      · have := occ_piece _ _ _ h3 hr
        rw [pieces_words] at this
        have h4 : wordList.contains s = true := by simpa using this
        rw [hc] at h4; cases h4
  · exact words_are s (by simpa using hc)

end Go.Proofs.YtbhknpombmdhiaaDoor.Lx
