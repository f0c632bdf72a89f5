/- What the document's own answers read at a position: a quote. -/
import Derived.Test.YtbhknpombmdhiaaDoorRefNum
namespace Go.Proofs.YtbhknpombmdhiaaDoor
open Go.RowKit

theorem quiet_left {P : Program} {f : FuncId} {args : Array Value} {w : World} {n : Nat} {v : Value}
    (h : Calls P f args (w.drewN n) fun e w' => e = .returned v ∧ w.drewN n = w') : Calls P f args (w.drewN n) fun e w'' => e = .returned v ∧ ∃ m, w'' = w.drewN m :=
  h.mono fun _ _ ⟨he, hm⟩ => ⟨he, n, hm.symm⟩

/-- What the reader of quotes comes to. -/
def RQuote (s : ByteArray) (a : Nat) (w : World) (e : Ending) (w' : World) : Prop :=
  ∃ (t : List UInt8) (n : Nat) (ok : Bool), e = .returned (.tuple #[.string ⟨t.toArray⟩, .int .i64 n, .bool ok]) ∧ (ok = true → a ≤ n ∧ Lx.quoteTok (s.data.toList.drop a) = some (3, t, n - a)) ∧ (ok = false → Lx.quoteTok (s.data.toList.drop a) = none) ∧ Below w.heap.size w w'

theorem RQuote.no {s : ByteArray} {a : Nat} {w w' : World} (h : Lx.quoteAny (s.data.toList.drop a).tail = none) (hb : Below w.heap.size w w') :
    RQuote s a w (.returned (.tuple #[.string ⟨#[]⟩, .int .i64 0, .bool false])) w' :=
  ⟨[], 0, false, rfl, (fun h => by cases h), (fun _ => Lx.quoteTok_any_none h), hb⟩
theorem RQuote.yes {s : ByteArray} {a j : Nat} {w w' : World} {tx : List UInt8} {c : UInt8} (hr : s.data.toList.drop a = c :: (s.data.toList.drop a).tail) (hc : c.toNat = 34) (haj : a < j)
    (h : Lx.quoteAny (s.data.toList.drop a).tail = some (tx, j - a)) (hb : Below w.heap.size w w') :
    RQuote s a w (.returned (.tuple #[.string ⟨tx.toArray⟩, .int .i64 ((j : Int) + 1), .bool (Lx.isText tx)])) w' := by
  have e := Lx.quoteTok_any_some hr hc h
  refine ⟨tx, j + 1, Lx.isText tx, rfl, fun h => ⟨by omega, ?_⟩, fun h => ?_, hb⟩
  · rw [e, h]
    have : j + 1 - a = j - a + 1 := by omega
    simp [this]
  · rw [e, h]; simp

set_option maxRecDepth 100000 in
set_option maxHeartbeats 2000000 in
theorem rquote_any (s : ByteArray) (a : Nat) (w : World) (hs : s.size < 4294967281) (ha : a < s.size) (hc : (s[a]'ha).toNat = 34) :
    Calls Tryd.prog 65 #[.string s, .int .i64 a] w (RQuote s a w) := by
  have HL : Hid (s.data.toList.length = s.size) := Lib.hid (list_len s)
  have HR : Hid (s.data.toList.drop a = (s[a]'ha) :: (s.data.toList.drop a).tail) := Lib.hid (by
    rw [Lx.drop_at _ _ (by rw [list_len]; exact ha)]; rfl)
  have HRL : Hid ((s.data.toList.drop a).length = s.size - a) := Lib.hid (by simp)
  have HG : Hid (∀ j (h1 : a ≤ j) (h : j < s.size), (s.data.toList.drop a)[j - a]'(by rw [List.length_drop, list_len]; omega) = s[j]) := Lib.hid fun j h1 h => by
    rw [List.getElem_drop]
    have e : a + (j - a) = j := by omega
    simp only [e]; rfl
  have HC := Lib.hid hc
  obtain ⟨i0, hi, hz0, hz1, hz2⟩ := info_parts info5
  have HI := Lib.hid hi; have HZ0 := Lib.hid hz0; have HZ1 := Lib.hid hz1; have HZ2 := Lib.hid hz2
  clear hi hz0 hz1 hz2 hc
  go_enter Tryd.func65, Tryd.ntmps65
  go_wp2_with fail
  go_loopw [7, 8] (fun v i wr => ∃ (j : Nat) (tx : List UInt8), a < j ∧ j ≤ s.size ∧ i = .int .i64 j ∧ wr.ownsRow w.heap.size 5 1 v tx.length (Lib.byteCells tx) ∧ tx.length + a + 1 ≤ j ∧ Below w.heap.size w wr ∧ Hid (Lx.QA (s.data.toList.drop a) (j - a) tx)) (fun _ i _ => s.size - (intOf i).toNat)
  case atStart => exact ⟨a + 1, [], by omega, by omega, by go_num, World.ownsRow_nil _ _ _ _, by simp, Below.refl _ _, Lib.hid (by rw [show a + 1 - a = 1 by omega]; exact Lx.QA.start _)⟩
  case round =>
    obtain ⟨j, tx, haj, hj, rfl, hown, htx, hB, hQ⟩ := hrel
    have hBz := hB.size
    have HO := Lib.hid hown
    obtain ⟨p, cap, rfl⟩ := own_slice hown
    have HB := Lib.hid hB
    clear hown hB
    by_cases hlt : j < s.size
    · have hjd : j - a < (s.data.toList.drop a).length := by rw [HRL.out]; omega
      have hg := HG.out j (by omega) hlt
      by_cases q34 : (s[j]'hlt).toNat = 34
      · have b1 : (((s[j]'hlt).toNat : Int) == 34) = true := ibeq_t (by omega)
        have hd := hQ.out.close (by omega) hjd (by rw [hg]; exact q34)
        have HD : Hid (∀ n, RQuote s a w (.returned (.tuple #[.string ⟨tx.toArray⟩, .int .i64 ((j : Int) + 1), .bool (Lx.isText tx)])) (wr.drewN n)) := Lib.hid fun n => RQuote.yes HR.out HC.out haj hd (below_drewN HB.out n)
        have hconv : ∀ n, (convert 62 9 (.slice p tx.length cap)).run Tryd.prog (wr.drewN n) = .ok (.string ⟨tx.toArray⟩) (wr.drewN n) := fun n => conv_own (w := wr.drewN n) HO.out
        have TT : Hid (∀ w, Calls Tryd.prog 29 #[.string ⟨tx.toArray⟩] w fun e w' => e = .returned (.bool (Lx.isText tx)) ∧ w = w') := Lib.hid fun w => refIsText_any ⟨tx.toArray⟩ w (by simp [ByteArray.size]; omega)
        clear hd q34 hg hjd hQ
        go_wp2_with fail
        go_quiet ((go_at_call 29; exact quiet_left (TT.out _)))
        go_wp2_with fail
        go_ret3
        exact HD.out _
      · have b1 : (((s[j]'hlt).toNat : Int) == 34) = false := ibeq_f (by omega)
        by_cases q92 : (s[j]'hlt).toNat = 92
        · have b2 : (((s[j]'hlt).toNat : Int) == 92) = true := ibeq_t (by omega)
          by_cases hend : j + 1 = s.size
          · have b3 : (((j : Int) + 1) == (s.size : Int)) = true := ibeq_t (by omega)
            have HN := Lib.hid (RQuote.no (w := w) (hQ.out.cut (by rw [HRL.out]; omega) (by rw [hg]; exact q92)) HB.out)
            clear q34 q92 hjd hg hQ hend
            go_wp2_with fail
            go_ret3
            exact HN.out
          · have b3 : (((j : Int) + 1) == (s.size : Int)) = false := ibeq_f (by omega)
            have hlt2 : j + 1 < s.size := by omega
            have hjd2 : j - a + 1 < (s.data.toList.drop a).length := by rw [HRL.out]; omega
            have hg2 : (s.data.toList.drop a)[j - a + 1]'hjd2 = s[j + 1]'hlt2 := by
              rw [← HG.out (j + 1) (by omega) hlt2]
              have e : j + 1 - a = j - a + 1 := by omega
              simp only [e]
            have hj2 : ((j : Int) + 1).toNat = j + 1 := by omega
            have HJ2 := Lib.hid hj2
            clear hj2
            cases hn : Lx.needsEsc (s[j + 1]'hlt2)
            · have n34 : ¬ (s[j + 1]'hlt2).toNat = 34 := by intro h; simp [Lx.needsEsc, h] at hn
              have n92 : ¬ (s[j + 1]'hlt2).toNat = 92 := by intro h; simp [Lx.needsEsc, h] at hn
              have c1 : (((s[j + 1]'hlt2).toNat : Int) == 34) = false := ibeq_f (by omega)
              have c2 : (((s[j + 1]'hlt2).toNat : Int) != 34) = true := by rw [bne, c1]; rfl
              have c3 : (((s[j + 1]'hlt2).toNat : Int) == 92) = false := ibeq_f (by omega)
              have c4 : (((s[j + 1]'hlt2).toNat : Int) != 92) = true := by rw [bne, c3]; rfl
              have HN := Lib.hid (RQuote.no (w := w) (hQ.out.bad_esc hjd2 (by rw [hg]; exact q92) (by rw [hg2]; exact hn)) HB.out)
              clear q34 q92 hjd hjd2 hg hg2 hQ hend hn n34 n92
              go_wp2_with fail
              go_ret3
              exact HN.out
            · have hQ' := hQ.out.esc (by omega) hjd2 (by rw [hg]; exact q92) (by rw [hg2]; exact hn)
              rw [hg2, show j - a + 2 = j + 2 - a by omega] at hQ'
              have HQ' := Lib.hid hQ'
              have B1 : Hid ((((s[j + 1]'hlt2).toNat : Int) == 34) = true ∧ (((s[j + 1]'hlt2).toNat : Int) != 34) = false ∨ (((s[j + 1]'hlt2).toNat : Int) == 34) = false ∧ (((s[j + 1]'hlt2).toNat : Int) != 34) = true ∧ (((s[j + 1]'hlt2).toNat : Int) == 92) = true ∧ (((s[j + 1]'hlt2).toNat : Int) != 92) = false) := Lib.hid (by
                have : (s[j + 1]'hlt2).toNat = 34 ∨ (s[j + 1]'hlt2).toNat = 92 := by simpa [Lx.needsEsc] using hn
                rcases this with h | h
                · exact .inl ⟨by simp [h], by simp [h]⟩
                · exact .inr ⟨by simp [h], by simp [h], by simp [h], by simp [h]⟩)
              clear q34 q92 hjd hjd2 hg hg2 hQ hend hn hQ'
              rcases B1.out with ⟨c1, c2⟩ | ⟨c1, c2, c3, c4⟩
              · go_wp2_with (at_builtin; refine wpList_append_own _ rfl _ _ 62 rfl w.heap.size 5 i0 (.int .u8 0) 1 1 Tryd.underlying62 HI.out HZ0.out HZ1.out HZ2.out rfl (by decide) _ _ _ rfl (HO.out.alloc _) ⟨wr.heap.size, 0, none⟩ 1 1 [.int .u8 ((s[j + 1]'hlt2).toNat : Int)] rfl rfl ?c1 ?c2 ?c3 ?c4 ?c5 ?_)
                case c1 => exact cell_one_new _ _ _
                case c2 => simp [Value.oneCell']
                case c3 => unfold maxLen; simp at *; omega
                case c4 => simp at *; omega
                case c5 => rw [World.size_alloc]; omega
                intro v' w1 hown' hgrow _
                have hbw := below_row HO.out (by omega) hgrow
                rw [snoc_cells] at hown'
                have HO' := Lib.hid hown'
                have HB' := Lib.hid (HB.out.trans hbw)
                clear hown' hgrow hbw
                go_wp2
                go_roundw
                case rel => exact ⟨j + 2, tx ++ [(s[j + 1]'hlt2)], by omega, by omega, by go_num, by simpa using HO'.out, by simp; omega, HB'.out, HQ'⟩
                case measure => simp [intOf]; omega
              · go_wp2_with (at_builtin; refine wpList_append_own _ rfl _ _ 62 rfl w.heap.size 5 i0 (.int .u8 0) 1 1 Tryd.underlying62 HI.out HZ0.out HZ1.out HZ2.out rfl (by decide) _ _ _ rfl (HO.out.alloc _) ⟨wr.heap.size, 0, none⟩ 1 1 [.int .u8 ((s[j + 1]'hlt2).toNat : Int)] rfl rfl ?d1 ?d2 ?d3 ?d4 ?d5 ?_)
                case d1 => exact cell_one_new _ _ _
                case d2 => simp [Value.oneCell']
                case d3 => unfold maxLen; simp at *; omega
                case d4 => simp at *; omega
                case d5 => rw [World.size_alloc]; omega
                intro v' w1 hown' hgrow _
                have hbw := below_row HO.out (by omega) hgrow
                rw [snoc_cells] at hown'
                have HO' := Lib.hid hown'
                have HB' := Lib.hid (HB.out.trans hbw)
                clear hown' hgrow hbw
                go_wp2
                go_roundw
                case rel => exact ⟨j + 2, tx ++ [(s[j + 1]'hlt2)], by omega, by omega, by go_num, by simpa using HO'.out, by simp; omega, HB'.out, HQ'⟩
                case measure => simp [intOf]; omega
        · have b2 : (((s[j]'hlt).toNat : Int) == 92) = false := ibeq_f (by omega)
          have hQ' := hQ.out.plain (by omega) hjd (by rw [hg]; exact q34) (by rw [hg]; exact q92)
          rw [hg, show j - a + 1 = j + 1 - a by omega] at hQ'
          have HQ' := Lib.hid hQ'
          clear q34 q92 hjd hg hQ hQ'
          go_wp2_with (at_builtin; refine wpList_append_own _ rfl _ _ 62 rfl w.heap.size 5 i0 (.int .u8 0) 1 1 Tryd.underlying62 HI.out HZ0.out HZ1.out HZ2.out rfl (by decide) _ _ _ rfl (HO.out.alloc _) ⟨wr.heap.size, 0, none⟩ 1 1 [.int .u8 ((s[j]'hlt).toNat : Int)] rfl rfl ?e1 ?e2 ?e3 ?e4 ?e5 ?_)
          case e1 => exact cell_one_new _ _ _
          case e2 => simp [Value.oneCell']
          case e3 => unfold maxLen; simp at *; omega
          case e4 => simp at *; omega
          case e5 => rw [World.size_alloc]; omega
          intro v' w1 hown' hgrow _
          have hbw := below_row HO.out (by omega) hgrow
          rw [snoc_cells] at hown'
          have HO' := Lib.hid hown'
          have HB' := Lib.hid (HB.out.trans hbw)
          clear hown' hgrow hbw
          go_wp2
          go_roundw
          case rel => exact ⟨j + 1, tx ++ [(s[j]'hlt)], by omega, by omega, by go_num, by simpa using HO'.out, by simp; omega, HB'.out, HQ'⟩
          case measure => simp [intOf]; omega
    · have HN := Lib.hid (RQuote.no (w := w) (hQ.out.over (by rw [HRL.out]; omega)) HB.out)
      clear hQ
      go_wp2_with fail
      go_ret3
      exact HN.out

end Go.Proofs.YtbhknpombmdhiaaDoor
