/- What the function Quote of the document's own answers returns, for every string. -/
import Derived.Test.YtjacdlglbjnoeaaGreatDoorBld
import Derived.Test.YtjacdlglbjnoeaaGreatDoorPlainS
import Derived.Lib.BufferRead
import Derived.Laws.OwnMore
namespace Go.Proofs.YtjacdlglbjnoeaaGreatDoor
open Go.RowKit

theorem own_slice {w : World} {base e : Nat} {size : Nat} {v : Value} {n : Nat} {xs : List Value} (h : w.ownsRow base e size v n xs) : ∃ p cap, v = .slice p n cap := by
  rcases h.2 with ⟨rfl, rfl⟩ | ⟨g, cap, cur, rfl, _⟩
  · exact ⟨_, _, rfl⟩
  · exact ⟨_, _, rfl⟩

/-- The bytes of a slice that the call owns, as a string. -/
theorem conv_own {w : World} {base : Nat} {p : Option Addr} {cap : Nat} {l : List UInt8} (h : w.ownsRow base 5 1 (.slice p l.length cap) l.length (Lib.byteCells l)) :
    (convert 134 9 (.slice p l.length cap)).run Tryz.prog w = .ok (.string ⟨l.toArray⟩) w := by
  rcases h.2 with ⟨e, h0⟩ | ⟨g, cap', cur, e, _, hg, _, _, _, htk⟩
  · cases l with
    | nil =>
      obtain ⟨rfl, _⟩ : p = none ∧ cap = 0 := by simpa using e
      exact Lib.run_convert_nil_bytes w 134 9 5 _ Tryz.underlying134 Tryz.underlying5 Tryz.underlying9
    | cons c l => simp at h0
  · obtain ⟨rfl, rfl⟩ : p = some ⟨g, 0, none⟩ ∧ cap = cap' := by simpa using e
    exact run_convert_bytes_back w 134 9 5 ⟨g, 0, none⟩ cap l Tryz.underlying134 Tryz.underlying5 Tryz.underlying9 (Lib.bytes_of_row hg (by simpa using htk))

theorem snoc_cells (tx : List UInt8) (c : UInt8) : Lib.byteCells tx ++ [.int .u8 (c.toNat : Int)] = Lib.byteCells (tx ++ [c]) := by simp [Lib.byteCells]

theorem below_row {w w' : World} {B : Nat} {v : Value} {n : Nat} {xs : List Value} {o : Obj} (hown : w.ownsRow B 5 1 v n xs) (hB : B ≤ w.heap.size) (hg : (w.alloc o).grownBy w' v.ownBlock) : Below B w w' :=
  ((Below.refl B w).alloc hB o).grown hg (by rw [World.size_alloc]; omega) (fun k e => (hown.lt k e).1)

theorem ibeq_f {a b : Int} (h : a ≠ b) : (a == b) = false := beq_eq_false_iff_ne.2 h
theorem ibeq_t {a b : Int} (h : a = b) : (a == b) = true := beq_iff_eq.2 h
theorem list_len (s : ByteArray) : s.data.toList.length = s.size := by simp

set_option maxRecDepth 100000 in
set_option maxHeartbeats 2000000 in
theorem refQuote_any (s : ByteArray) (w : World) (hs : s.size ≤ 4294967281) :
    Calls Tryz.prog 60 #[.string s] w fun e w' => e = .returned (.string ⟨([34] ++ Sx.esc s.data.toList ++ [34]).toArray⟩) ∧ Below w.heap.size w w' := by
  have HP : Hid (∀ k (h : k < s.size), s.data.toList[k]'(by rw [list_len]; exact h) = s[k]) := Lib.hid fun k h => rfl
  have HL : Hid (s.data.toList.length = s.size) := Lib.hid (list_len s)
  obtain ⟨i0, hi, hz0, hz1, hz2⟩ := info_parts info5
  have HI := Lib.hid hi; have HZ0 := Lib.hid hz0; have HZ1 := Lib.hid hz1; have HZ2 := Lib.hid hz2
  clear hi hz0 hz1 hz2
  go_enter Tryz.func60, Tryz.ntmps60
  go_wp2
  have hW0 : Below w.heap.size w (w.alloc (.cells #[.int .u8 34] 5)) := (Below.refl _ _).alloc (Nat.le_refl _) _
  have hR0 : (w.alloc (.cells #[.int .u8 34] 5)).ownsRow w.heap.size 5 1 (.slice (some ⟨w.heap.size, 0, none⟩) 1 1) 1 (Lib.byteCells [34]) := World.ownsRow_lit w #[.int .u8 34] 1 (Nat.le_refl _) (by decide) (by rfl)
  have HW0 := Lib.hid hW0
  have HR0 := Lib.hid hR0
  clear hW0 hR0
  go_loopw [3, 4] (fun v i wr => ∃ (k : Nat) (tx : List UInt8), k ≤ s.size ∧ i = .int .i64 k ∧ wr.ownsRow w.heap.size 5 1 v tx.length (Lib.byteCells tx) ∧ tx.length ≤ 2 * k + 1 ∧ Below w.heap.size w wr ∧ Hid (tx = [34] ++ Sx.esc (s.data.toList.take k))) (fun _ i _ => s.size - (intOf i).toNat)
  case atStart => exact ⟨0, [34], Nat.zero_le _, rfl, HR0.out, by simp, HW0.out, Lib.hid (by simp [Sx.esc])⟩
  case round =>
    obtain ⟨k, tx, hk, rfl, hown, htx, hB, hQ⟩ := hrel
    have hz := hB.size
    have HO := Lib.hid hown
    have HB := Lib.hid hB
    obtain ⟨p, cap, rfl⟩ := own_slice hown
    clear hown hB
    by_cases hlt : k < s.size
    · have htk : s.data.toList.take (k + 1) = s.data.toList.take k ++ [(s[k]'hlt)] := by
        rw [List.take_succ_eq_append_getElem (by rw [HL.out]; exact hlt), HP.out k hlt]
      have hes := Sx.esc_snoc (s.data.toList.take k) (s[k]'hlt)
      rw [← htk] at hes
      clear htk
      cases hn : Sx.needs (s[k]'hlt)
      · rw [hn] at hes
        have HQ' := Lib.hid (show tx ++ [(s[k]'hlt)] = [34] ++ Sx.esc (s.data.toList.take (k + 1)) by rw [hes, hQ.out]; simp)
        have n34 : ¬ (s[k]'hlt).toNat = 34 := by intro h; simp [Sx.needs, h] at hn
        have n92 : ¬ (s[k]'hlt).toNat = 92 := by intro h; simp [Sx.needs, h] at hn
        have b1 : (((s[k]'hlt).toNat : Int) == 34) = false := ibeq_f (by omega)
        have b2 : (((s[k]'hlt).toNat : Int) == 92) = false := ibeq_f (by omega)
        clear hes hn n34 n92 hQ
        go_wp2_with (at_builtin; refine wpList_append_own _ rfl _ _ 134 rfl w.heap.size 5 i0 (.int .u8 0) 1 1 Tryz.underlying134 HI.out HZ0.out HZ1.out HZ2.out rfl (by decide) _ _ _ rfl (HO.out.alloc _) ⟨wr.heap.size, 0, none⟩ 1 1 [.int .u8 ((s[k]'hlt).toNat : Int)] rfl rfl ?c1 ?c2 ?c3 ?c4 ?c5 ?_)
        case c1 => exact cell_one_new _ _ _
        case c2 => simp [Value.oneCell']
        case c3 => unfold maxLen; simp at *; omega
        case c4 => simp at *; omega
        case c5 => rw [World.size_alloc]; omega
        intro v' w1 hown' hgrow _
        have hbw := below_row HO.out (by omega) hgrow
        rw [snoc_cells] at hown'
        have HO' := Lib.hid hown'
        have HB' := Lib.hid (HB.out.trans hbw)
        clear hown' hgrow hbw
        go_wp2
        go_roundw
        case rel => exact ⟨k + 1, tx ++ [(s[k]'hlt)], by omega, by go_num, by simpa using HO'.out, by simp; omega, HB'.out, HQ'⟩
        case measure => simp [intOf]; omega
      · rw [hn] at hes
        have HQ' := Lib.hid (show tx ++ [92] ++ [(s[k]'hlt)] = [34] ++ Sx.esc (s.data.toList.take (k + 1)) by rw [hes, hQ.out]; simp)
        have h34 : (s[k]'hlt).toNat = 34 ∨ (s[k]'hlt).toNat = 92 := by simpa [Sx.needs] using hn
        clear hes hn hQ
        have two : ∀ wr : World, True := fun _ => trivial
        clear two
        rcases h34 with h34 | h92
        · have b1 : (((s[k]'hlt).toNat : Int) == 34) = true := ibeq_t (by omega)
          clear h34
          go_wp2_with (at_builtin; refine wpList_append_own _ rfl _ _ 134 rfl w.heap.size 5 i0 (.int .u8 0) 1 1 Tryz.underlying134 HI.out HZ0.out HZ1.out HZ2.out rfl (by decide) _ _ _ rfl (HO.out.alloc _) ⟨wr.heap.size, 0, none⟩ 1 1 [.int .u8 92] rfl rfl ?c1 ?c2 ?c3 ?c4 ?c5 ?_)
          case c1 => exact cell_one_new _ _ _
          case c2 => simp [Value.oneCell']
          case c3 => unfold maxLen; simp at *; omega
          case c4 => simp at *; omega
          case c5 => rw [World.size_alloc]; omega
          intro v' w1 hown' hgrow _
          have hbw := below_row HO.out (by omega) hgrow
          rw [show ([.int .u8 92] : List Value) = [.int .u8 ((92 : UInt8).toNat : Int)] from rfl, snoc_cells] at hown'
          have hz1 := (HB.out.trans hbw).size
          have HO' : Hid (w1.ownsRow w.heap.size 5 1 v' (tx ++ [92]).length (Lib.byteCells (tx ++ [92]))) := Lib.hid (by simpa using hown')
          have HB' := Lib.hid (HB.out.trans hbw)
          obtain ⟨p', cap', rfl⟩ := own_slice hown'
          clear hown' hgrow hbw
          have htx1 : (tx ++ [92]).length = tx.length + 1 := by simp
          have HO1 : Hid (w1.ownsRow w.heap.size 5 1 (.slice p' (tx.length + 1) cap') (tx.length + 1) (Lib.byteCells (tx ++ [92]))) := Lib.hid (by have := HO'.out; rw [htx1] at this; exact this)
          clear HO' htx1
          go_wp2_with (at_builtin; refine wpList_append_own _ rfl _ _ 134 rfl w.heap.size 5 i0 (.int .u8 0) 1 1 Tryz.underlying134 HI.out HZ0.out HZ1.out HZ2.out rfl (by decide) _ _ _ rfl (HO1.out.alloc _) ⟨w1.heap.size, 0, none⟩ 1 1 [.int .u8 ((s[k]'hlt).toNat : Int)] rfl rfl ?d1 ?d2 ?d3 ?d4 ?d5 ?_)
          case d1 => exact cell_one_new _ _ _
          case d2 => simp [Value.oneCell']
          case d3 => unfold maxLen; simp at *; omega
          case d4 => simp at *; omega
          case d5 => rw [World.size_alloc]; omega
          intro v2 w2 hown2 hgrow2 _
          have hbw2 := below_row HO1.out (by omega) hgrow2
          rw [snoc_cells] at hown2
          have HO2 := Lib.hid hown2
          have HB2 := Lib.hid (HB'.out.trans hbw2)
          clear hown2 hgrow2 hbw2
          go_wp2
          go_roundw
          case rel => exact ⟨k + 1, tx ++ [92] ++ [(s[k]'hlt)], by omega, by go_num, by simpa using HO2.out, by simp; omega, HB2.out, HQ'⟩
          case measure => simp [intOf]; omega
        · have b1 : (((s[k]'hlt).toNat : Int) == 34) = false := ibeq_f (by omega)
          have b2 : (((s[k]'hlt).toNat : Int) == 92) = true := ibeq_t (by omega)
          clear h92
          go_wp2_with (at_builtin; refine wpList_append_own _ rfl _ _ 134 rfl w.heap.size 5 i0 (.int .u8 0) 1 1 Tryz.underlying134 HI.out HZ0.out HZ1.out HZ2.out rfl (by decide) _ _ _ rfl (HO.out.alloc _) ⟨wr.heap.size, 0, none⟩ 1 1 [.int .u8 92] rfl rfl ?c1 ?c2 ?c3 ?c4 ?c5 ?_)
          case c1 => exact cell_one_new _ _ _
          case c2 => simp [Value.oneCell']
          case c3 => unfold maxLen; simp at *; omega
          case c4 => simp at *; omega
          case c5 => rw [World.size_alloc]; omega
          intro v' w1 hown' hgrow _
          have hbw := below_row HO.out (by omega) hgrow
          rw [show ([.int .u8 92] : List Value) = [.int .u8 ((92 : UInt8).toNat : Int)] from rfl, snoc_cells] at hown'
          have hz1 := (HB.out.trans hbw).size
          have HO' : Hid (w1.ownsRow w.heap.size 5 1 v' (tx ++ [92]).length (Lib.byteCells (tx ++ [92]))) := Lib.hid (by simpa using hown')
          have HB' := Lib.hid (HB.out.trans hbw)
          obtain ⟨p', cap', rfl⟩ := own_slice hown'
          clear hown' hgrow hbw
          have htx1 : (tx ++ [92]).length = tx.length + 1 := by simp
          have HO1 : Hid (w1.ownsRow w.heap.size 5 1 (.slice p' (tx.length + 1) cap') (tx.length + 1) (Lib.byteCells (tx ++ [92]))) := Lib.hid (by have := HO'.out; rw [htx1] at this; exact this)
          clear HO' htx1
          go_wp2_with (at_builtin; refine wpList_append_own _ rfl _ _ 134 rfl w.heap.size 5 i0 (.int .u8 0) 1 1 Tryz.underlying134 HI.out HZ0.out HZ1.out HZ2.out rfl (by decide) _ _ _ rfl (HO1.out.alloc _) ⟨w1.heap.size, 0, none⟩ 1 1 [.int .u8 ((s[k]'hlt).toNat : Int)] rfl rfl ?d1 ?d2 ?d3 ?d4 ?d5 ?_)
          case d1 => exact cell_one_new _ _ _
          case d2 => simp [Value.oneCell']
          case d3 => unfold maxLen; simp at *; omega
          case d4 => simp at *; omega
          case d5 => rw [World.size_alloc]; omega
          intro v2 w2 hown2 hgrow2 _
          have hbw2 := below_row HO1.out (by omega) hgrow2
          rw [snoc_cells] at hown2
          have HO2 := Lib.hid hown2
          have HB2 := Lib.hid (HB'.out.trans hbw2)
          clear hown2 hgrow2 hbw2
          go_wp2
          go_roundw
          case rel => exact ⟨k + 1, tx ++ [92] ++ [(s[k]'hlt)], by omega, by go_num, by simpa using HO2.out, by simp; omega, HB2.out, HQ'⟩
          case measure => simp [intOf]; omega
    · have hks : k = s.size := by omega
      have HQ' := Lib.hid (show tx ++ [34] = [34] ++ Sx.esc s.data.toList ++ [34] by rw [hQ.out, List.take_of_length_le (by rw [HL.out]; omega)])
      clear hks hQ
      go_wp2_with (at_builtin; refine wpList_append_own _ rfl _ _ 134 rfl w.heap.size 5 i0 (.int .u8 0) 1 1 Tryz.underlying134 HI.out HZ0.out HZ1.out HZ2.out rfl (by decide) _ _ _ rfl (HO.out.alloc _) ⟨wr.heap.size, 0, none⟩ 1 1 [.int .u8 34] rfl rfl ?e1 ?e2 ?e3 ?e4 ?e5 ?_)
      case e1 => exact cell_one_new _ _ _
      case e2 => simp [Value.oneCell']
      case e3 => unfold maxLen; simp at *; omega
      case e4 => simp at *; omega
      case e5 => rw [World.size_alloc]; omega
      intro v' w1 hown' hgrow _
      have hbw := below_row HO.out (by omega) hgrow
      rw [show ([.int .u8 34] : List Value) = [.int .u8 ((34 : UInt8).toNat : Int)] from rfl, snoc_cells] at hown'
      obtain ⟨p', cap', rfl⟩ := own_slice hown'
      have hconv := conv_own (l := tx ++ [34]) (by simpa using hown')
      rw [HQ'.out] at hconv
      have e1 : ([34] ++ Sx.esc s.data.toList ++ [34]).length = tx.length + 1 := by rw [← HQ'.out]; simp
      rw [e1] at hconv
      have HB' := Lib.hid (HB.out.trans hbw)
      have HC := Lib.hid hconv
      clear hown' hgrow hbw e1
      generalize hg : (⟨([34] ++ Sx.esc s.data.toList ++ [34]).toArray⟩ : ByteArray) = res at *
      have HG := Lib.hid hg
      clear HC hg
      go_wp2
      go_ret
      refine ⟨?_, HB'.out⟩
      show Ending.returned (.string res) = _
      rw [← HG.out]
      rfl

end Go.Proofs.YtjacdlglbjnoeaaGreatDoor
