/- The statement LexisTokens: it returns true for every string. -/
import Derived.Test.YtbhknpombmdhiaaDoorLawComment
import Derived.Test.YtbhknpombmdhiaaDoorLawPlaces
import Derived.Test.YtbhknpombmdhiaaDoorRefAll
import Derived.Test.YtbhknpombmdhiaaDoorParts
namespace Go.Proofs.YtbhknpombmdhiaaDoor
open Go.RowKit

theorem same_nil (w : World) : Calls Tryd.prog 17 #[.slice none 0 0, .slice none 0 0] w fun e w' => e = .returned (.bool true) ∧ Below w.heap.size w w' := by
  go_enter Tryd.func17, Tryd.ntmps17
  go_wp2
  go_loop [5] (fun i => i = .int .i64 0) (fun _ => 0)
  case atStart => rfl
  case round =>
    obtain rfl := hrel
    go_wp2
    go_ret
    exact ⟨rfl, Below.refl _ _⟩

set_option maxRecDepth 100000 in
set_option maxHeartbeats 1000000 in
theorem same_rows (l : List Lx.Tok) (N : Nat) (hN : N = l.length) (v u : Value) (bv bu : Nat) (w : World) (hl : 0 < N) (hv : w.ownsRow bv 47 3 v N (cellsT l)) (hu : w.ownsRow bu 47 3 u N (cellsT l)) :
    Calls Tryd.prog 17 #[v, u] w fun e w' => e = .returned (.bool true) ∧ Below w.heap.size w w' := by
  obtain ⟨g, cap, rfl, hgc, hgm⟩ := row_form hv hl
  obtain ⟨g2, cap2, rfl, hgc2, hgm2⟩ := row_form hu hl
  unfold maxLen at hgm hgm2
  have HV := Lib.hid hv
  have HU := Lib.hid hu
  have HN := Lib.hid hN
  clear hv hu hl hN
  go_enter Tryd.func17, Tryd.ntmps17
  go_wp2
  go_loopw [5] (fun i W => ∃ j n : Nat, j ≤ N ∧ i = .int .i64 j ∧ W = w.drewN n) (fun i _ => N - (intOf i).toNat)
  case atStart => exact ⟨0, 0, Nat.zero_le _, rfl, rfl⟩
  case round =>
    obtain ⟨j, n, hj, rfl, rfl⟩ := hrel
    by_cases hlt : j < N
    · have hpj : j < l.length := by rw [← HN.out]; exact hlt
      obtain ⟨a0, a1, a2⟩ := row_cells HV.out j hpj HN.out.symm
      obtain ⟨b0, b1, b2⟩ := row_cells HU.out j hpj HN.out.symm
      generalize l[j] = x at *
      obtain ⟨x0, x1, x2⟩ := x
      simp only at a0 a1 a2 b0 b1 b2
      clear hpj
      go_wp2_with fail
      go_quiet (fail)
      go_wp2_with fail
      go_roundw
      case rel => exact ⟨j + 1, _, by omega, by go_num, rfl⟩
      case measure => simp [intOf]; omega
    · go_wp2
      go_ret
      exact ⟨rfl, below_drewN (Below.refl _ w) n⟩

set_option maxRecDepth 100000 in
set_option maxHeartbeats 2000000 in
theorem law_tokens (s : ByteArray) (w : World) (ws : s.size ≤ maxLen) (henv : Env w) :
    Calls Tryd.prog 3 #[.string s] w fun e w' => e = .returned (.bool true) ∧ Below w.heap.size w w' := by
  obtain ⟨m, hm⟩ : ∃ m : Nat, m = min s.size 4001 := ⟨_, rfl⟩
  have hb := brief_any s m hm ws w
  have hts : (s.extract 0 m).size = m := take_size s m (by omega)
  generalize s.extract 0 m = t at *
  have HB := Lib.hid hb
  have HE := Lib.hid henv
  clear hb henv hm
  by_cases h4 : 4000 < t.size
  · have T := Lib.hid (fun w => tokens_full t w h4)
    have R := Lib.hid (fun w => rtokens_full t w h4)
    clear hts h4
    go_enter Tryd.func3, Tryd.ntmps3
    go_wp2_with fail
    refine HB.out.mono ?_
    rintro e w' ⟨rfl, hw⟩
    obtain rfl : w = w' := hw
    go_wp2_with fail
    refine (T.out _).mono ?_
    rintro e w1 ⟨rfl, hb1⟩
    have HB1 := Lib.hid hb1
    clear hb1
    go_wp2_with fail
    refine (R.out _).mono ?_
    rintro e w' ⟨rfl, hw⟩
    obtain rfl : w1 = w' := hw
    go_wp2_with fail
    refine (same_nil _).mono ?_
    rintro e w2 ⟨rfl, hb2⟩
    have HB2 := Lib.hid (HB1.out.trans (hb2.mono HB1.out.size))
    clear hb2
    go_wp2_with fail
    refine (awake_any w2 (HE.out.below HE.out.2.2 HB2.out)).mono ?_
    rintro e w3 ⟨rfl, hb3⟩
    have HB3 := Lib.hid (HB2.out.trans (hb3.mono HB2.out.size))
    clear hb3
    go_wp2
    go_ret
    exact ⟨rfl, HB3.out⟩
  · have T := Lib.hid (tokens_any t w HE.out (by omega))
    have R := Lib.hid (fun w => rtokens_any t w (by omega))
    have hne := fun l => Lx.tokens_parts (s := t.data.toList) (l := l) []
    clear hts h4
    go_enter Tryd.func3, Tryd.ntmps3
    go_wp2_with fail
    refine HB.out.mono ?_
    rintro e w' ⟨rfl, hw⟩
    obtain rfl : w = w' := hw
    go_wp2_with fail
    refine T.out.mono ?_
    rintro e w1 ⟨h0, hp, hb1⟩
    have HB1 := Lib.hid hb1
    clear T
    cases hres : (Lx.tokens t.data.toList).2 with
    | some p =>
      obtain rfl := hp p hres
      have HR := Lib.hid hres
      clear h0 hp hres hb1
      go_wp2_with fail
      refine (R.out _).mono ?_
      rintro e w2 ⟨-, hp, hb2⟩
      obtain rfl := hp p HR.out
      have HB2 := Lib.hid (HB1.out.trans (hb2.mono HB1.out.size))
      clear hb2 hp
      go_wp2_with fail
      refine (same_nil _).mono ?_
      rintro e w3 ⟨rfl, hb3⟩
      have HB3 := Lib.hid (HB2.out.trans (hb3.mono HB2.out.size))
      clear hb3
      go_wp2_with fail
      refine (awake_any w3 (HE.out.below HE.out.2.2 HB3.out)).mono ?_
      rintro e w4 ⟨rfl, hb4⟩
      have HB4 := Lib.hid (HB3.out.trans (hb4.mono HB3.out.size))
      clear hb4
      go_wp2
      go_ret
      exact ⟨rfl, HB4.out⟩
    | none =>
      obtain ⟨v, rfl, hrow⟩ := h0 hres
      have HR := Lib.hid hres
      have HW := Lib.hid hrow
      clear h0 hp hres hb1 hrow
      go_wp2_with fail
      refine (R.out _).mono ?_
      rintro e w2 ⟨h0, -, hb2⟩
      obtain ⟨u, rfl, hrow2⟩ := h0 HR.out
      have HV := Lib.hid (own_below HW.out hb2)
      have HU := Lib.hid hrow2
      have HB2 := Lib.hid (HB1.out.trans (hb2.mono HB1.out.size))
      clear hb2 h0 hrow2
      have HL : Hid (0 < (Lx.tokens t.data.toList).1.length) := Lib.hid (by
        obtain ⟨pre, hl, -⟩ := hne (Lx.tokens t.data.toList).1 (Prod.ext rfl HR.out)
        rw [hl]; simp)
      have S := Lib.hid (same_rows (Lx.tokens t.data.toList).1 _ rfl v u _ _ w2 HL.out HV.out HU.out)
      clear hne
      go_wp2_with fail
      refine S.out.mono ?_
      rintro e w3 ⟨rfl, hb3⟩
      have HB3 := Lib.hid (HB2.out.trans (hb3.mono HB2.out.size))
      clear hb3
      go_wp2_with fail
      refine (awake_any w3 (HE.out.below HE.out.2.2 HB3.out)).mono ?_
      rintro e w4 ⟨rfl, hb4⟩
      have HB4 := Lib.hid (HB3.out.trans (hb4.mono HB3.out.size))
      clear hb4
      go_wp2
      go_ret
      exact ⟨rfl, HB4.out⟩

end Go.Proofs.YtbhknpombmdhiaaDoor
