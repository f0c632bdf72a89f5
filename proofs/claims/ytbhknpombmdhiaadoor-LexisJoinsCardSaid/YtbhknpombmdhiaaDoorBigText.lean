/- What the functions of one token return, whatever the size of its text: as far as a text can be read. -/
import Derived.Test.YtbhknpombmdhiaaDoorJoinText
namespace Go.Proofs.YtbhknpombmdhiaaDoor
open Go.RowKit Go.Shelf

/-- Whether a blank stands in a string. -/
theorem index_space (s : ByteArray) (w : World) : Calls Tryd.prog 80 #[.string s, .string ⟨#[32]⟩] w fun e w' => e = .returned (.int .i64 (Go.Lib.index s.data.toList [32])) ∧ w' = w := by
  rw [Go.Lib.index_one]
  exact Any.stringslite_Index_one ({ Tryd.lays144 with } : Go.Proofs.Lays.n219 Tryd.prog Tryd.lays144_ren) s 32 w
theorem index_space' (s : ByteArray) (w : World) : Calls Tryd.prog 70 #[.string s, .string ⟨#[32]⟩] w fun e w' => e = .returned (.int .i64 (Go.Lib.index s.data.toList [32])) ∧ w' = w := by
  have II := Lib.hid (fun w => index_space s w)
  go_enter Tryd.func70, Tryd.ntmps70
  go_wp2_with (go_at_call 80; refine (II.out _).mono ?_; rintro e w' ⟨rfl, rfl⟩)
  go_ret
  exact ⟨rfl, rfl⟩
theorem contains_space (s : ByteArray) (w : World) : Calls Tryd.prog 46 #[.string s, .string ⟨#[32]⟩] w fun e w' => e = .returned (.bool (Go.Lib.contains s.data.toList [32])) ∧ w' = w := by
  have II := Lib.hid (fun w => index_space' s w)
  unfold Go.Lib.contains
  generalize Go.Lib.index s.data.toList [32] = x at *
  go_enter Tryd.func46, Tryd.ntmps46
  go_wp2_with (go_at_call 70; refine (II.out _).mono ?_; rintro e w' ⟨rfl, rfl⟩)
  go_ret
  exact ⟨rfl, rfl⟩

set_option maxRecDepth 100000 in
set_option maxHeartbeats 400000 in
theorem isWord_big (s : ByteArray) (w : World) (m : Int) (_hs : s.size ≤ 140737488355327) (hm : w.cell? ⟨2, 0, none⟩ = some (.int .i64 m)) :
    Calls Tryd.prog 24 #[.string s] w fun e w' => e = .returned (.bool (Lx.isWord s.data.toList)) ∧ w = w' := by
  have K := contains_space s w
  cases h1 : Go.Lib.contains s.data.toList [32]
  · rw [h1] at K
    have KK := Lib.hid K
    have K2 := Tryd.strings_Contains ⟨Lx.words.toArray⟩ ((⟨#[32]⟩ : ByteArray) ++ s ++ ⟨#[32]⟩) m w (show Lx.words.length < _ by decide) hm
    rw [pad_list, show (⟨Lx.words.toArray⟩ : ByteArray).data.toList = Lx.words from rfl, show Go.Lib.contains Lx.words ([32] ++ s.data.toList ++ [32]) = Lx.isWord s.data.toList by simp [Lx.isWord, h1]] at K2
    have KK2 := Lib.hid K2
    clear K K2 h1
    generalize Lx.isWord s.data.toList = bb at *
    go_enter Tryd.func24, Tryd.ntmps24
    go_wp2_with fail
    refine KK.out.mono ?_
    rintro e w' ⟨rfl, hw⟩
    obtain rfl : w = w' := hw.symm
    go_wp2_with fail
    refine KK2.out.mono ?_
    rintro e w' ⟨rfl, hw2⟩
    obtain rfl : w = w' := hw2.symm
    go_wp2
    go_ret
    exact ⟨rfl, rfl⟩
  · rw [h1] at K
    rw [show Lx.isWord s.data.toList = false by simp [Lx.isWord, h1]]
    have KK := Lib.hid K
    clear K h1
    go_enter Tryd.func24, Tryd.ntmps24
    go_wp2_with fail
    refine KK.out.mono ?_
    rintro e w' ⟨rfl, hw⟩
    obtain rfl : w = w' := hw.symm
    go_wp2
    go_ret
    exact ⟨rfl, rfl⟩


theorem isName_big (s : ByteArray) (w : World) (m : Int) (hs : s.size ≤ 140737488355327) (hm : w.cell? ⟨2, 0, none⟩ = some (.int .i64 m)) :
    Calls Tryd.prog 25 #[.string s] w fun e w' => e = .returned (.bool (Lx.isName s.data.toList)) ∧ w = w' := by
  by_cases h : s.size < 4294967281
  · exact isName_any s w m h hm
  · have hlen : s.data.toList.length = s.size := list_len s
    have hl := list_of_size (s := s) (by omega)
    have g0 : ((s.size : Int) == 0) = false := ibeq_f (by omega)
    have g12 : (12 : Int) < s.size := by omega
    have h12 : ¬ s.size ≤ 12 := by omega
    rw [show Lx.isName s.data.toList = false by rw [hl] at hlen ⊢; simp only [Lx.isName]; rw [hlen]; simp [h12]]
    clear hl hlen
    go_enter Tryd.func25, Tryd.ntmps25
    go_wp2
    go_ret
    exact ⟨rfl, rfl⟩

theorem atoi_tail_big (s : ByteArray) (w : World) (hs : s.size ≤ 140737488355327) (h0 : 0 < s.size) (hr : Lx.run Lx.isDigit s.data.toList = s.size) (henv : Env w) :
    (Lx.val 0 s.data.toList < 9223372036854775808 ∧ Calls Tryd.prog 77 #[.string s] w fun e w' => e = .returned (.tuple #[.int .i64 (Lx.val 0 s.data.toList : Nat), .nilIface]) ∧ Below w.heap.size w w') ∨
    (9223372036854775808 ≤ Lx.val 0 s.data.toList ∧ Calls Tryd.prog 77 #[.string s] w fun e w' => (∃ N v, e = .returned (.tuple #[.int .i64 v, .iface 115 (.pointer (some ⟨N, 0, none⟩))])) ∧ Below w.heap.size w w') := by
  obtain ⟨_, ⟨tp, p, hp⟩, _⟩ := henv
  have e := list_of_size h0
  have hr' : Lx.run Lx.isDigit s.data.toList = s.data.toList.length := by rw [hr, list_len]
  rw [e] at hr'
  rcases Lx.atoi_digits s[0] s.data.toList.tail hr' with ⟨h1, h2⟩ | ⟨h1, h2⟩
  · rw [← e] at h1 h2
    refine .inl ⟨h1, (Tryd.strconv_Atoi_ok s (by omega) _ h2 w).mono ?_⟩
    rintro e w' ⟨rfl, rfl | ⟨t, rfl⟩⟩
    · exact ⟨rfl, Below.refl _ _⟩
    · exact ⟨rfl, Lib.bytesWorld_below _ _ _⟩
  · rw [← e] at h1 h2
    refine .inr ⟨h1, (Tryd.strconv_Atoi_range s (by omega) h2 _ w hp (.inr ⟨tp, p, rfl⟩)).mono ?_⟩
    rintro e w' ⟨N, rfl, _, _, hb⟩
    exact ⟨⟨N, _, rfl⟩, hb⟩

set_option maxRecDepth 100000 in
set_option maxHeartbeats 800000 in
theorem isNumeral_big (s : ByteArray) (w : World) (hs : s.size ≤ 140737488355327) (henv : Env w) :
    Calls Tryd.prog 66 #[.string s] w fun e w' => e = .returned (.bool (Lx.isNumeral s.data.toList)) ∧ Below w.heap.size w w' := by
  by_cases h0 : 0 < s.size
  · have e0 := isEmpty_f h0
    have e1 := toList_ne h0
    have ez := zero_text h0
    have hl := list_of_size h0
    have hlen := list_len s
    have R := run_isDigit s w (by omega)
    have hle := Lx.run_le Lx.isDigit s.data.toList
    rw [hlen] at hle
    have hN : Lx.isNumeral s.data.toList = ((Lx.run Lx.isDigit s.data.toList == s.size) && (!(s[0].toNat == 48) || decide (s.size = 1)) && decide (Lx.val 0 s.data.toList ≤ 1000000000000)) := by
      have : ∀ l : List UInt8, l = s[0] :: l.tail → l.length = s.size → Lx.isNumeral l = ((Lx.run Lx.isDigit l == s.size) && (!(s[0].toNat == 48) || decide (s.size = 1)) && decide (Lx.val 0 l ≤ 1000000000000)) := fun l e e2 => by
        rw [e] at e2 ⊢
        have e3 : l.tail.isEmpty = decide (s.size = 1) := by
          rw [← e2, Bool.eq_iff_iff]
          cases l.tail <;> simp
        simp only [Lx.isNumeral, e2, e3]
      exact this _ hl hlen
    by_cases hrn : Lx.run Lx.isDigit s.data.toList = s.size
    · rw [hN, show (Lx.run Lx.isDigit s.data.toList == s.size) = true by simp [hrn], Bool.true_and]
      have A := atoi_tail_big s w hs h0 hrn henv
      rw [hrn] at R
      have RR := Lib.hid R
      clear R hl hlen hle hN hrn
      by_cases hz : s[0].toNat = 48
      · have gz : ((s[0].toNat : Int) == 48) = true := ibeq_t (by omega)
        by_cases h1 : s.size = 1
        · rw [show (!(s[0].toNat == 48) || decide (s.size = 1)) = true by simp [h1], Bool.true_and]
          have ez' : (s.toList == [48]) = true := by rw [ez]; simp [hz, h1]
          clear ez hz h1
          rcases A with ⟨hv, A⟩ | ⟨hv, A⟩
          · have AA := Lib.hid A
            have hv' := Lib.hid hv
            clear A hv
            generalize Lx.val 0 s.data.toList = nv at *
            go_enter Tryd.func66, Tryd.ntmps66
            go_wp2_with (first | (go_at_call 48; refine RR.out.mono ?_; rintro e w' ⟨rfl, rfl⟩) | (go_at_call 77; refine AA.out.mono ?_; rintro e w1 ⟨rfl, hb⟩))
            go_ret
            exact ⟨ret_bool (decide_eq_decide.2 (by omega)), hb⟩
          · have AA := Lib.hid A
            rw [show decide (Lx.val 0 s.data.toList ≤ 1000000000000) = false by simp; omega]
            clear A hv
            go_enter Tryd.func66, Tryd.ntmps66
            go_wp2_with (first | (go_at_call 48; refine RR.out.mono ?_; rintro e w' ⟨rfl, rfl⟩) | (go_at_call 77; refine AA.out.mono ?_; rintro e w1 ⟨⟨N, v, rfl⟩, hb⟩))
            go_ret
            exact ⟨rfl, hb⟩
        · rw [show (!(s[0].toNat == 48) || decide (s.size = 1)) = false by simp [hz, h1], Bool.false_and]
          have ez' : (s.toList == [48]) = false := by rw [ez]; simp [h1]
          clear ez hz h1 A
          go_enter Tryd.func66, Tryd.ntmps66
          go_wp2_with (first | (go_at_call 48; refine RR.out.mono ?_; rintro e w' ⟨rfl, rfl⟩))
          go_ret
          exact ⟨rfl, Below.refl _ _⟩
      · have gz : ((s[0].toNat : Int) == 48) = false := ibeq_f (by omega)
        rw [show (!(s[0].toNat == 48) || decide (s.size = 1)) = true by simp [hz], Bool.true_and]
        clear ez hz
        rcases A with ⟨hv, A⟩ | ⟨hv, A⟩
        · have AA := Lib.hid A
          have hv' := Lib.hid hv
          clear A hv
          generalize Lx.val 0 s.data.toList = nv at *
          go_enter Tryd.func66, Tryd.ntmps66
          go_wp2_with (first | (go_at_call 48; refine RR.out.mono ?_; rintro e w' ⟨rfl, rfl⟩) | (go_at_call 77; refine AA.out.mono ?_; rintro e w1 ⟨rfl, hb⟩))
          go_ret
          exact ⟨ret_bool (decide_eq_decide.2 (by omega)), hb⟩
        · have AA := Lib.hid A
          rw [show decide (Lx.val 0 s.data.toList ≤ 1000000000000) = false by simp; omega]
          clear A hv
          go_enter Tryd.func66, Tryd.ntmps66
          go_wp2_with (first | (go_at_call 48; refine RR.out.mono ?_; rintro e w' ⟨rfl, rfl⟩) | (go_at_call 77; refine AA.out.mono ?_; rintro e w1 ⟨⟨N, v, rfl⟩, hb⟩))
          go_ret
          exact ⟨rfl, hb⟩
    · rw [hN, show (Lx.run Lx.isDigit s.data.toList == s.size) = false by simp [hrn], Bool.false_and, Bool.false_and]
      have RR := Lib.hid R
      have hlt : Lx.run Lx.isDigit s.data.toList < s.size := by omega
      clear R hl hlen hle hN hrn ez
      generalize Lx.run Lx.isDigit s.data.toList = nn at *
      go_enter Tryd.func66, Tryd.ntmps66
      go_wp2_with (first | (go_at_call 48; refine RR.out.mono ?_; rintro e w' ⟨rfl, rfl⟩))
      go_ret
      exact ⟨rfl, Below.refl _ _⟩
  · rw [show Lx.isNumeral s.data.toList = false by rw [list_nil h0]; rfl]
    have e0 : s.toList = [] := by rw [ByteArray.toList_eq, list_nil h0]
    go_enter Tryd.func66, Tryd.ntmps66
    go_wp2
    go_ret
    exact ⟨rfl, Below.refl _ _⟩


theorem quoted_big (s : ByteArray) (w : World) (hs : s.size ≤ 140737488355327) :
    Calls Tryd.prog 28 #[.string s] w fun e w' => e = .returned (quoteV (Lx.quoted s.data.toList)) ∧ Below w.heap.size w w' := by
  by_cases h : s.size < 4294967281
  · exact quoted_any s w h
  · have g60 : (60 : Int) < s.size := by omega
    have hq : Lx.quoted s.data.toList = none := by
      unfold Lx.quoted
      rw [if_neg]
      rintro ⟨h1, _⟩
      rw [list_len] at h1; omega
    rw [hq]
    clear hq
    go_enter Tryd.func28, Tryd.ntmps28
    go_wp2
    go_ret2
    exact ⟨rfl, Below.refl _ _⟩

open Go.WideMaps Go.Maps in
theorem Signs.look_big {w : World} {b n : Nat} (h : Signs w b n Lx.signList) (s : ByteArray) (hs : s.size ≤ 140737488355327) :
    (Instr.lookup 54 (.map (some b)) (.string s) false).run Tryd.prog w = .ok (.bool (Lx.isSign s.data.toList)) w := by
  obtain ⟨D, hown, hat⟩ := h
  obtain ⟨v, ps, hrun, hv⟩ := hown.lookup keyed9 Tryd.underlying54 (zero4 w) (plainElem_bool Tryd.underlying4 false) (keyOf_string_mk Tryd.underlying9 (show s.size ≤ maxLen by unfold maxLen; omega))
  rw [hat] at hv
  have : v = .bool (Lx.isSign s.data.toList) := by
    cases v <;> simp [plainElem, Tryd.underlying4, Lx.isSign] at hv ⊢
    exact hv.1
  rw [hrun, this]

set_option maxRecDepth 100000 in
set_option maxHeartbeats 2000000 in
theorem textOf_big (k : Int) (t : ByteArray) (p : Int) (Bm : Nat) (w : World) (ht : t.size ≤ 140737488355327) (henv : Env w) (hs : Signs w Bm 21 Lx.signList) :
    Calls Tryd.prog 40 #[.agg #[.int .i64 k, .string t, .int .i64 p], .map (some Bm)] w (TextPost k t w) := by
  have hbx : ∀ o, Below w.heap.size w (w.alloc o) := fun o => (Below.refl _ _).alloc (Nat.le_refl _) _
  have hBm := hs.lt
  by_cases h1 : k = 1
  · subst h1
    obtain ⟨⟨m, hm⟩, _, h8⟩ := henv
    have M : Hid (∀ o n, ((w.alloc o).drewN n).cell? ⟨2, 0, none⟩ = some (.int .i64 m)) := Lib.hid fun o n => (show (w.alloc o).cell? ⟨2, 0, none⟩ = _ by rw [World.cell?_alloc_past _ _ _ (by show 2 < w.heap.size; omega)]; exact hm)
    clear hm
    go_enter Tryd.func40, Tryd.ntmps40
    go_wp2_with fail
    go_quiet ((go_at_call 25; exact quiet_left (isName_big t _ m ht (M.out _ _))))
    go_wp2_with fail
    go_ret2
    exact TextPost.plain (by decide) (by decide) rfl (below_drewN (hbx _) _)
  by_cases h5 : k = 5
  · subst h5
    obtain ⟨⟨m, hm⟩, _, h8⟩ := henv
    have M : Hid (∀ o n, ((w.alloc o).drewN n).cell? ⟨2, 0, none⟩ = some (.int .i64 m)) := Lib.hid fun o n => (show (w.alloc o).cell? ⟨2, 0, none⟩ = _ by rw [World.cell?_alloc_past _ _ _ (by show 2 < w.heap.size; omega)]; exact hm)
    clear hm h1
    go_enter Tryd.func40, Tryd.ntmps40
    go_wp2_with fail
    go_quiet ((go_at_call 24; exact quiet_left (isWord_big t _ m ht (M.out _ _))))
    go_wp2_with fail
    go_ret2
    exact TextPost.plain (by decide) (by decide) rfl (below_drewN (hbx _) _)
  by_cases h4 : k = 4
  · subst h4
    have L0 : ∀ n, (Instr.lookup 54 (.map (some Bm)) (.string t) false).run Tryd.prog ((w.alloc (.cells #[.int .i64 4, .string t, .int .i64 p] 47)).drewN n) = .ok (.bool (Lx.isSign t.data.toList)) ((w.alloc (.cells #[.int .i64 4, .string t, .int .i64 p] 47)).drewN n) :=
      fun n => Signs.look_big (w := (w.alloc (.cells #[.int .i64 4, .string t, .int .i64 p] 47)).drewN n) (hs.below (below_drewN (hbx _) n) hBm) t ht
    clear h1 h5
    go_enter Tryd.func40, Tryd.ntmps40
    go_wp2_with fail
    go_quiet (fail)
    go_wp2_with fail
    go_ret2
    exact TextPost.plain (by decide) (by decide) rfl (below_drewN (hbx _) _)
  by_cases h2 : k = 2
  · subst h2
    have E : Hid (∀ o n, Env ((w.alloc o).drewN n)) := Lib.hid fun o n => henv.below henv.2.2 (below_drewN (hbx o) n)
    clear h1 h5 h4 henv
    go_enter Tryd.func40, Tryd.ntmps40
    go_wp2_with fail
    go_region_with (go_at_call 66; refine (isNumeral_big t _ ht (E.out _ 1)).mono ?_; rintro e w1 ⟨rfl, hb⟩; have hbb := Lib.hid (new1_then (n := 1) hb); obtain ⟨x0, x1, x2, y0, y1, y2, hz⟩ := keep3 (n := 1) hb; clear hb)
    all_goals go_wp2
    all_goals go_ret2
    all_goals exact TextPost.plain (by decide) (by decide) rfl hbb.out
  by_cases h3 : k = 3
  · subst h3
    have Q := quoted_big t
    have hT : Lx.isTok 3 t.data.toList = Lx.isText t.data.toList := rfl
    have hq : Lx.quoted t.data.toList = if Lx.isText t.data.toList = true then some ([34] ++ Lx.esc t.data.toList ++ [34]) else none := by
      unfold Lx.quoted Lx.isText
      by_cases a1 : t.data.toList.length ≤ 60
      · by_cases a2 : t.data.toList.all Lx.isPrinted = true
        · rw [if_pos ⟨a1, a2⟩, a2, decide_eq_true a1]; rfl
        · rw [if_neg (fun h => a2 h.2), Bool.eq_false_iff.2 a2]; rfl
      · rw [if_neg (fun h => a1 h.1), decide_eq_false a1, Bool.and_false]; rfl
    cases hb : Lx.isText t.data.toList
    · rw [hb] at hq
      have QQ : Hid (∀ w, Calls Tryd.prog 28 #[.string t] w fun e w' => e = .returned (.tuple #[.string ⟨#[]⟩, .int .i64 2]) ∧ Below w.heap.size w w') := Lib.hid fun w => by
        have := Q w ht; rw [hq] at this; exact this
      have HT := Lib.hid (hT.trans hb)
      clear Q hq hb hT h1 h5 h4 h2
      go_enter Tryd.func40, Tryd.ntmps40
      go_wp2_with (go_at_call 28; refine (QQ.out _).mono ?_; rintro e w1 ⟨rfl, hb⟩)
      go_ret2
      exact ⟨⟨#[]⟩, false, rfl, by rw [HT.out]; rfl, (fun h => by cases h), new1_then' hb⟩
    · rw [hb] at hq
      have QQ : Hid (∀ w, Calls Tryd.prog 28 #[.string t] w fun e w' => e = .returned (.tuple #[.string ⟨([34] ++ Lx.esc t.data.toList ++ [34]).toArray⟩, .int .i64 0]) ∧ Below w.heap.size w w') := Lib.hid fun w => by
        have := Q w ht; rw [hq] at this; exact this
      have HT := Lib.hid (hT.trans hb)
      have HX : Hid ((⟨([34] ++ Lx.esc t.data.toList ++ [34]).toArray⟩ : ByteArray).data.toList = Lx.txt 3 t.data.toList) := Lib.hid (by simp [Lx.txt])
      generalize (⟨([34] ++ Lx.esc t.data.toList ++ [34]).toArray⟩ : ByteArray) = tx at *
      clear Q hq hb hT h1 h5 h4 h2
      go_enter Tryd.func40, Tryd.ntmps40
      go_wp2_with (go_at_call 28; refine (QQ.out _).mono ?_; rintro e w1 ⟨rfl, hb⟩)
      go_ret2
      exact ⟨tx, true, rfl, by rw [HT.out]; rfl, (fun _ => HX.out), new1_then' hb⟩
  have b1 : (k == 1) = false := ibeq_f h1
  have b2 : (k == 2) = false := ibeq_f h2
  have b3 : (k == 3) = false := ibeq_f h3
  have b4 : (k == 4) = false := ibeq_f h4
  have b5 : (k == 5) = false := ibeq_f h5
  have HN : Hid ((Lx.isTok k t.data.toList && !decide (k = 6)) = false) := Lib.hid (by
    unfold Lx.isTok; rw [if_neg h1, if_neg h2, if_neg h3, if_neg h4, if_neg h5]
    by_cases h6 : k = 6
    · rw [decide_eq_true h6]; simp
    · rw [decide_eq_false h6]; simp)
  clear h1 h2 h3 h4 h5
  go_enter Tryd.func40, Tryd.ntmps40
  go_wp2
  go_ret2
  exact ⟨⟨#[]⟩, false, rfl, HN.out.symm, (fun h => by cases h), hbx _⟩

end Go.Proofs.YtbhknpombmdhiaaDoor
