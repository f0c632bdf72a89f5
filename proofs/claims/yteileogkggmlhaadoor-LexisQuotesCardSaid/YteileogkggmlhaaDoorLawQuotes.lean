/- The statement LexisQuotes: it returns true for every string. -/
import Derived.Test.YteileogkggmlhaaDoorAwake
import Derived.Test.YteileogkggmlhaaDoorRefText
namespace Go.Proofs.YteileogkggmlhaaDoor
open Go.RowKit

theorem quoted_isText (l : List UInt8) : Lx.quoted l = if Lx.isText l = true then some ([34] ++ Lx.esc l ++ [34]) else none := by
  unfold Lx.quoted Lx.isText
  by_cases h1 : l.length ≤ 60 <;> by_cases h2 : l.all Lx.isPrinted = true <;> simp [h1, h2]

set_option maxRecDepth 100000 in
set_option maxHeartbeats 2000000 in
theorem law_quotes (s : ByteArray) (w : World) (ws : s.size ≤ maxLen) (henv : Env w) :
    Calls Tryd.prog 6 #[.string s] w fun e w' => e = .returned (.bool true) ∧ Below w.heap.size w w' := by
  unfold maxLen at ws
  obtain ⟨m, hm⟩ : ∃ m : Nat, m = min s.size 100 := ⟨_, rfl⟩
  have hmi : min (s.size : Int) 100 = (m : Int) := by omega
  have hm1 : m ≤ s.size := by omega
  have ht : (s.extract 0 m).size ≤ 100 := by simp; omega
  have Q := fun w => quoted_any (s.extract 0 m) w (by omega)
  have T := fun w => refIsText_any (s.extract 0 m) w (by omega)
  have R := fun w => refQuote_any (s.extract 0 m) w (by omega)
  rw [quoted_isText] at Q
  have QQ := Lib.hid Q
  have RR := Lib.hid R
  have HE := Lib.hid henv
  have hmi' := Lib.hid hmi
  clear Q R hm henv hmi
  cases hb : Lx.isText (s.extract 0 m).data.toList
  · rw [hb] at T
    have TT := Lib.hid T
    have QN : Hid (∀ w, Calls Tryd.prog 28 #[.string (s.extract 0 m)] w fun e w' => e = .returned (.tuple #[.string ⟨#[]⟩, .int .i64 2]) ∧ Below w.heap.size w w') := Lib.hid fun w => by
      have := QQ.out w; rw [hb] at this; exact this
    clear T hb QQ
    have hmi := hmi'.out
    go_enter Tryd.func6, Tryd.ntmps6
    go_wp2_with fail
    refine (QN.out _).mono ?_
    rintro e w1 ⟨rfl, hb1⟩
    have HB1 := Lib.hid hb1
    clear hb1
    go_wp2_with fail
    refine (TT.out _).mono ?_
    rintro e w' ⟨rfl, hw⟩
    obtain rfl : w1 = w' := hw
    go_wp2_with fail
    refine (awake_any w1 (HE.out.below HE.out.2.2 HB1.out)).mono ?_
    rintro e w2 ⟨rfl, hb2⟩
    have HB2 := Lib.hid (HB1.out.trans (hb2.mono HB1.out.size))
    clear hb2
    go_wp2
    go_ret
    exact ⟨rfl, HB2.out⟩
  · rw [hb] at T
    have TT := Lib.hid T
    have QN : Hid (∀ w, Calls Tryd.prog 28 #[.string (s.extract 0 m)] w fun e w' => e = .returned (.tuple #[.string ⟨([34] ++ Lx.esc (s.extract 0 m).data.toList ++ [34]).toArray⟩, .int .i64 0]) ∧ Below w.heap.size w w') := Lib.hid fun w => by
      have := QQ.out w; rw [hb] at this; exact this
    clear T hb QQ
    generalize (⟨([34] ++ Lx.esc (s.extract 0 m).data.toList ++ [34]).toArray⟩ : ByteArray) = qb at *
    have hmi := hmi'.out
    go_enter Tryd.func6, Tryd.ntmps6
    go_wp2_with fail
    refine (QN.out _).mono ?_
    rintro e w1 ⟨rfl, hb1⟩
    have HB1 := Lib.hid hb1
    clear hb1
    go_wp2_with fail
    refine (TT.out _).mono ?_
    rintro e w' ⟨rfl, hw⟩
    obtain rfl : w1 = w' := hw
    go_wp2_with fail
    refine (RR.out _).mono ?_
    rintro e w2 ⟨rfl, hb2⟩
    have HB2 := Lib.hid (HB1.out.trans (hb2.mono HB1.out.size))
    clear hb2
    go_wp2_with fail
    refine (awake_any w2 (HE.out.below HE.out.2.2 HB2.out)).mono ?_
    rintro e w3 ⟨rfl, hb3⟩
    have HB3 := Lib.hid (HB2.out.trans (hb3.mono HB2.out.size))
    clear hb3
    go_wp2
    go_ret
    exact ⟨rfl, HB3.out⟩

end Go.Proofs.YteileogkggmlhaaDoor
