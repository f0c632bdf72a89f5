/- What IsWord and IsName return, for every string: is it a word, is it a name. -/
import Derived.Test.YtbhknpombmdhiaaDoorRun
import Derived.Test.YtbhknpombmdhiaaDoorShelf
namespace Go.Proofs.YtbhknpombmdhiaaDoor
open Go.RowKit

theorem pad_list (s : ByteArray) : ((⟨#[32]⟩ : ByteArray) ++ s ++ ⟨#[32]⟩).data.toList = [32] ++ s.data.toList ++ [32] := by
  simp [ByteArray.data_append]

set_option maxRecDepth 100000 in
set_option maxHeartbeats 400000 in
theorem isWord_any (s : ByteArray) (w : World) (m : Int) (hs : s.size < 4294967281) (hm : w.cell? ⟨2, 0, none⟩ = some (.int .i64 m)) :
    Calls Tryd.prog 24 #[.string s] w fun e w' => e = .returned (.bool (Lx.isWord s.data.toList)) ∧ w = w' := by
  have K := Tryd.strings_Contains s ⟨#[32]⟩ m w hs hm
  cases h1 : Go.Lib.contains s.data.toList [32]
  · rw [h1] at K
    have KK := Lib.hid K
    have K2 := Tryd.strings_Contains ⟨Lx.words.toArray⟩ ((⟨#[32]⟩ : ByteArray) ++ s ++ ⟨#[32]⟩) m w (show Lx.words.length < _ by decide) hm
    rw [pad_list, show (⟨Lx.words.toArray⟩ : ByteArray).data.toList = Lx.words from rfl, show Go.Lib.contains Lx.words ([32] ++ s.data.toList ++ [32]) = Lx.isWord s.data.toList by simp [Lx.isWord, h1]] at K2
    have KK2 := Lib.hid K2
    clear K K2 h1
    generalize Lx.isWord s.data.toList = bb at *
    go_enter Tryd.func24, Tryd.ntmps24
    go_wp2_with fail
    refine KK.out.mono ?_
    rintro e w' ⟨rfl, hw⟩
    obtain rfl : w = w' := hw.symm
    go_wp2_with fail
    refine KK2.out.mono ?_
    rintro e w' ⟨rfl, hw2⟩
    obtain rfl : w = w' := hw2.symm
    go_wp2
    go_ret
    exact ⟨rfl, rfl⟩
  · rw [h1] at K
    rw [show Lx.isWord s.data.toList = false by simp [Lx.isWord, h1]]
    have KK := Lib.hid K
    clear K h1
    go_enter Tryd.func24, Tryd.ntmps24
    go_wp2_with fail
    refine KK.out.mono ?_
    rintro e w' ⟨rfl, hw⟩
    obtain rfl : w = w' := hw.symm
    go_wp2
    go_ret
    exact ⟨rfl, rfl⟩


theorem ibeq_f {a b : Int} (h : a ≠ b) : (a == b) = false := beq_eq_false_iff_ne.2 h
theorem ibeq_t {a b : Int} (h : a = b) : (a == b) = true := beq_iff_eq.2 h
theorem list_len (s : ByteArray) : s.data.toList.length = s.size := by simp
theorem list_nil {s : ByteArray} (h : ¬ 0 < s.size) : s.data.toList = [] := List.eq_nil_of_length_eq_zero (by rw [list_len]; omega)
theorem list_of_size {s : ByteArray} (h : 0 < s.size) : s.data.toList = s[0] :: s.data.toList.tail := by
  have h' : 0 < s.data.toList.length := by simpa using h
  cases e : s.data.toList with
  | nil => rw [e] at h'; simp at h'
  | cons c l =>
    have : s[0] = s.data.toList[0]'h' := rfl
    rw [this]; simp [e]

set_option maxRecDepth 100000 in
set_option maxHeartbeats 400000 in
theorem isName_any (s : ByteArray) (w : World) (m : Int) (hs : s.size < 4294967281) (hm : w.cell? ⟨2, 0, none⟩ = some (.int .i64 m)) :
    Calls Tryd.prog 25 #[.string s] w fun e w' => e = .returned (.bool (Lx.isName s.data.toList)) ∧ w = w' := by
  by_cases h0 : 0 < s.size
  · have hl := list_of_size h0
    have hlen : s.data.toList.length = s.size := by simp
    have g0 : ((s.size : Int) == 0) = false := ibeq_f (by omega)
    by_cases h12 : s.size ≤ 12
    · have g12 : ¬ (12 : Int) < s.size := by omega
      cases h1 : Lx.isLetter s[0]
      · rw [show Lx.isName s.data.toList = false by rw [hl]; simp [Lx.isName, h1]]
        have K := isLetter_any s[0] w
        rw [h1] at K
        have KK := Lib.hid K
        clear K hl hlen h1
        go_enter Tryd.func25, Tryd.ntmps25
        go_wp2_with (go_at_call 47; refine KK.out.mono ?_; rintro e w' ⟨rfl, rfl⟩)
        go_ret
        exact ⟨rfl, rfl⟩
      · have K := isLetter_any s[0] w
        rw [h1] at K
        have KK := Lib.hid K
        have R := run_isLD s w (by omega)
        have W := isWord_any s w m hs hm
        have hr := Lx.run_le Lx.isLD s.data.toList
        rw [hlen] at hr
        have hN : Lx.isName s.data.toList = ((Lx.run Lx.isLD s.data.toList == s.size) && !Lx.isWord s.data.toList) := by
          have : ∀ l : List UInt8, l = s[0] :: l.tail → l.length = s.size → Lx.isName l = ((Lx.run Lx.isLD l == s.size) && !Lx.isWord l) := fun l e e2 => by
            rw [e] at e2 ⊢
            simp only [Lx.isName, e2, h1, h12, decide_true, Bool.true_and]
          exact this _ hl hlen
        by_cases hrn : Lx.run Lx.isLD s.data.toList = s.size
        · rw [hN, show (Lx.run Lx.isLD s.data.toList == s.size) = true by simp [hrn], Bool.true_and]
          rw [hrn] at R
          have RR := Lib.hid R
          have WW := Lib.hid W
          clear K hl hlen h1 R W hr hN hrn
          generalize Lx.isWord s.data.toList = bb at *
          go_enter Tryd.func25, Tryd.ntmps25
          cases bb <;> go_wp2_with (first | (go_at_call 47; refine KK.out.mono ?_; rintro e w' ⟨rfl, rfl⟩) | (go_at_call 48; refine RR.out.mono ?_; rintro e w' ⟨rfl, rfl⟩) | (go_at_call 24; refine WW.out.mono ?_; rintro e w' ⟨rfl, rfl⟩))
          all_goals go_ret
          all_goals exact ⟨rfl, rfl⟩
        · rw [hN, show (Lx.run Lx.isLD s.data.toList == s.size) = false by simp [hrn], Bool.false_and]
          have RR := Lib.hid R
          clear K hl hlen h1 R W hr hN
          generalize Lx.run Lx.isLD s.data.toList = nn at *
          have gn : ((nn : Int) == (s.size : Int)) = false := ibeq_f (by omega)
          have gn2 := Lib.hid hrn
          clear hrn
          go_enter Tryd.func25, Tryd.ntmps25
          go_wp2_with (first | (go_at_call 47; refine KK.out.mono ?_; rintro e w' ⟨rfl, rfl⟩) | (go_at_call 48; refine RR.out.mono ?_; rintro e w' ⟨rfl, rfl⟩))
          all_goals go_ret
          all_goals exact ⟨rfl, rfl⟩
    · have g12 : (12 : Int) < s.size := by omega
      rw [show Lx.isName s.data.toList = false by rw [hl] at hlen ⊢; simp only [Lx.isName]; rw [hlen]; simp [h12]]
      clear hl hlen
      go_enter Tryd.func25, Tryd.ntmps25
      go_wp2
      go_ret
      exact ⟨rfl, rfl⟩
  · rw [show Lx.isName s.data.toList = false by rw [list_nil h0]; rfl]
    have g0 : ((s.size : Int) == 0) = true := ibeq_t (by omega)
    go_enter Tryd.func25, Tryd.ntmps25
    go_wp2
    go_ret
    exact ⟨rfl, rfl⟩

end Go.Proofs.YtbhknpombmdhiaaDoor
