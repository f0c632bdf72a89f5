/- The statement LexisPlaces: it returns true for every string and int. -/
import Derived.Test.YtbhknpombmdhiaaDoorAwake
import Derived.Test.YtbhknpombmdhiaaDoorPlace
namespace Go.Proofs.YtbhknpombmdhiaaDoor
open Go.RowKit

theorem brief_any (s : ByteArray) (m : Nat) (hm : m = min s.size 4001) (ws : s.size ≤ maxLen) (w : World) :
    Calls Tryd.prog 14 #[.string s] w fun e w' => e = .returned (.string (s.extract 0 m)) ∧ w = w' := by
  unfold maxLen at ws
  have hmi : min (s.size : Int) 4001 = (m : Int) := by omega
  have hm1 : m ≤ s.size := by omega
  have HM := Lib.hid hm
  clear hm
  go_enter Tryd.func14, Tryd.ntmps14
  go_wp2
  go_ret
  exact ⟨rfl, rfl⟩

theorem place_err1 (s : ByteArray) (x : Int) (w : World) (h1 : (4000 : Int) < s.size) :
    Calls Tryd.prog 31 #[.string s, .int .i64 x] w fun e w' => e = .returned (.tuple #[.int .i64 0, .int .i64 0, .int .i64 2]) ∧ Below w.heap.size w w' := by
  go_enter Tryd.func31, Tryd.ntmps31
  go_wp2
  go_ret3
  exact ⟨rfl, Below.refl _ _⟩
theorem place_err2 (s : ByteArray) (x : Int) (w : World) (h1 : ¬ (4000 : Int) < s.size) (h2 : x < 0) :
    Calls Tryd.prog 31 #[.string s, .int .i64 x] w fun e w' => e = .returned (.tuple #[.int .i64 0, .int .i64 0, .int .i64 2]) ∧ Below w.heap.size w w' := by
  go_enter Tryd.func31, Tryd.ntmps31
  go_wp2
  go_ret3
  exact ⟨rfl, Below.refl _ _⟩
theorem place_err3 (s : ByteArray) (x : Int) (w : World) (h1 : ¬ (4000 : Int) < s.size) (h2 : ¬ x < 0) (h3 : (s.size : Int) < x) :
    Calls Tryd.prog 31 #[.string s, .int .i64 x] w fun e w' => e = .returned (.tuple #[.int .i64 0, .int .i64 0, .int .i64 2]) ∧ Below w.heap.size w w' := by
  go_enter Tryd.func31, Tryd.ntmps31
  go_wp2
  go_ret3
  exact ⟨rfl, Below.refl _ _⟩

set_option maxRecDepth 100000 in
set_option maxHeartbeats 2000000 in
theorem law_places_bad (t : ByteArray) (s : ByteArray) (x : Int) (w : World) (henv : Env w)
    (hb : Calls Tryd.prog 14 #[.string s] w fun e w' => e = .returned (.string t) ∧ w = w')
    (hp : ∀ w, Calls Tryd.prog 31 #[.string t, .int .i64 x] w fun e w' => e = .returned (.tuple #[.int .i64 0, .int .i64 0, .int .i64 2]) ∧ Below w.heap.size w w')
    (hbad : (4000 : Int) < t.size ∨ ¬ (4000 : Int) < t.size ∧ x < 0 ∨ ¬ (4000 : Int) < t.size ∧ ¬ x < 0 ∧ (t.size : Int) < x) :
    Calls Tryd.prog 7 #[.string s, .int .i64 x] w fun e w' => e = .returned (.bool true) ∧ Below w.heap.size w w' := by
  have HB := Lib.hid hb
  have HP := Lib.hid hp
  have HE := Lib.hid henv
  clear hb hp henv
  rcases hbad with h1 | ⟨h1, h2⟩ | ⟨h1, h2, h3⟩
  all_goals
    go_enter Tryd.func7, Tryd.ntmps7
    go_wp2_with fail
    refine HB.out.mono ?_
    rintro e w' ⟨rfl, hw⟩
    obtain rfl : w = w' := hw
    go_wp2_with fail
    refine (HP.out _).mono ?_
    rintro e w1 ⟨rfl, hb1⟩
    have HB1 := Lib.hid hb1
    clear hb1
    go_wp2_with fail
    refine (awake_any w1 (HE.out.below HE.out.2.2 HB1.out)).mono ?_
    rintro e w2 ⟨rfl, hb2⟩
    have HB2 := Lib.hid (HB1.out.trans (hb2.mono HB1.out.size))
    clear hb2
    go_wp2
    go_ret
    exact ⟨rfl, HB2.out⟩

set_option maxRecDepth 100000 in
set_option maxHeartbeats 2000000 in
theorem law_places (s : ByteArray) (x : Int) (w : World) (ws : s.size ≤ maxLen) (_wx : (Lit.int .i64 x).wf = true) (henv : Env w) :
    Calls Tryd.prog 7 #[.string s, .int .i64 x] w fun e w' => e = .returned (.bool true) ∧ Below w.heap.size w w' := by
  obtain ⟨m, hm⟩ : ∃ m : Nat, m = min s.size 4001 := ⟨_, rfl⟩
  have hb := brief_any s m hm ws w
  have hts : (s.extract 0 m).size = m := take_size s m (by omega)
  generalize s.extract 0 m = t at *
  by_cases h1 : (4000 : Int) < t.size
  · exact law_places_bad t s x w henv hb (fun w => place_err1 t x w h1) (.inl h1)
  by_cases h2 : x < 0
  · exact law_places_bad t s x w henv hb (fun w => place_err2 t x w h1 h2) (.inr (.inl ⟨h1, h2⟩))
  by_cases h3 : (t.size : Int) < x
  · exact law_places_bad t s x w henv hb (fun w => place_err3 t x w h1 h2 h3) (.inr (.inr ⟨h1, h2, h3⟩))
  obtain ⟨k, rfl⟩ := Int.eq_ofNat_of_zero_le (Int.not_lt.1 h2)
  have hP := fun w => place_any t k w (by omega) (by omega)
  have hR := fun w => refPlace_any t k w (by omega) (by omega)
  generalize Lx.feeds (t.data.toList.take k) = nf at *
  generalize Lx.col (t.data.toList.take k) = nc at *
  have HB := Lib.hid hb
  have HP := Lib.hid hP
  have HR := Lib.hid hR
  have HE := Lib.hid henv
  have hk : (k : Int) ≤ t.size := by omega
  clear hb hP hR henv hm hts h3
  go_enter Tryd.func7, Tryd.ntmps7
  go_wp2_with fail
  refine HB.out.mono ?_
  rintro e w' ⟨rfl, hw⟩
  obtain rfl : w = w' := hw
  go_wp2_with fail
  refine (HP.out _).mono ?_
  rintro e w1 ⟨rfl, hb1⟩
  have HB1 := Lib.hid hb1
  clear hb1
  go_wp2_with fail
  refine (HR.out _).mono ?_
  rintro e w' ⟨rfl, hw⟩
  obtain rfl : w1 = w' := hw
  go_wp2_with fail
  refine (awake_any w1 (HE.out.below HE.out.2.2 HB1.out)).mono ?_
  rintro e w2 ⟨rfl, hb2⟩
  have HB2 := Lib.hid (HB1.out.trans (hb2.mono HB1.out.size))
  clear hb2
  go_wp2
  go_ret
  exact ⟨rfl, HB2.out⟩

end Go.Proofs.YtbhknpombmdhiaaDoor
