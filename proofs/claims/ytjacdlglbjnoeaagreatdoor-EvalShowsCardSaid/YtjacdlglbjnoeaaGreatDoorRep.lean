/- What strings.ReplaceAll returns where what is replaced is one byte. -/
import Derived.Test.YtjacdlglbjnoeaaGreatDoorBld
import Derived.Test.YtjacdlglbjnoeaaGreatDoorPlainS
import Derived.Lib.ReplaceLaws
import Derived.Lib.SlicesS
import Derived.Deep.LoopGhost
namespace Go.Proofs.YtjacdlglbjnoeaaGreatDoor
open Go.RowKit Go.Shelf

theorem size_list (s : ByteArray) : s.data.toList.length = s.size := by simp

set_option maxHeartbeats 16000000 in
set_option maxRecDepth 1000000 in
theorem replace_some (s old new : ByteArray) (c : UInt8) (w : World) (hs : s.size ≤ 1000000) (hn : new.size ≤ 1000) (ho : old = ⟨#[c]⟩) (hne : old ≠ new) (hc0 : s.data.toList.count c ≠ 0) :
    Calls Tryz.prog 145 #[.string s, .string old, .string new, .int .i64 (-1)] w fun e w' =>
      e = .returned (.string ⟨(Sx.rep c new.data.toList s.data.toList).toArray⟩) ∧ Below w.heap.size w w' := by
  have hC : ∀ w, Calls Tryz.prog 159 #[.string s, .string old] w fun e w' => e = .returned (.int .i64 (s.data.toList.count c : Nat)) ∧ w' = w := fun w => by rw [ho]; exact Any.strings_Count_one Tryz.lays138 s c w
  have hI : ∀ x w, Calls Tryz.prog 161 #[.string x, .string old] w fun e w' => e = .returned (.int .i64 (Lib.indexByte x.data.toList c)) ∧ w' = w := fun x w => by rw [ho]; exact Any.strings_Index_one Tryz.lays143 x c w
  have h1 : old.size = 1 := by rw [ho]; rfl
  have hlenL := size_list s
  have hmul : s.data.toList.count c ≤ s.size := by rw [← hlenL]; exact List.count_le_length
  obtain ⟨K, hK⟩ : ∃ K : Nat, s.data.toList.count c = K := ⟨_, rfl⟩
  rw [hK] at hC hc0 hmul
  have hbeq : (old.toList == new.toList) = false := (Lib.bytes_beq_false_iff old new).2 hne
  have hcz : ((K : Int) == 0) = false := beq_eq_false_iff_ne.2 (by omega)
  have ho0 : (0 : Int) < (old.size : Int) := by omega
  have hKn0 : K * new.size ≤ 1000000 * 1000 := Nat.mul_le_mul (by omega) hn
  have hga := Lib.grow_arg s.size K new.size old.size (by omega) (by rw [h1]; omega) (by omega)
  have hKd : Hid ((s.data.toList.drop 0).count c = K) := Lib.hid (by rw [List.drop_zero, hK])
  have HI := Lib.hid hI
  have HC := Lib.hid hC
  have hod : decide (0 < old.size) = true := decide_eq_true (by omega)
  have Hone := Lib.hid h1
  clear hI hC ho hK hne h1
  go_enter Tryz.func145, Tryz.ntmps145
  go_wp2_with (first | (go_at_call 159; refine (HC.out _).mono ?_; rintro e w' ⟨rfl, hw⟩; rw [hw]))
  clear HC
  try rw [hga]
  refine (growB_fresh w.heap.size w.heap.size _ _ (Nat.le_refl _) (heap_alloc_new w _) (by simp) (by omega)).mono ?_
  rintro e w1 ⟨rfl, hb0, hb1⟩
  have H1 := Lib.hid (Or.inr hb0 : Lib.IsBuilderF 152 5 w.heap.size w.heap.size (Lib.byteCells []) w1)
  have Hb1 := Lib.hid (((Below.refl w.heap.size w).alloc (Nat.le_refl _) _).trans hb1)
  clear hb0 hb1 hga
  go_wp2_with fail
  go_loopg [11, 53] K (fun g s11 s53 wx => ∃ (i start : Nat) (acc : List UInt8), s53 = .int .i64 i ∧ s11 = .int .i64 start ∧ i + g = K ∧ start ≤ s.size ∧
    Hid (Lib.IsBuilderF 152 5 w.heap.size w.heap.size (Lib.byteCells acc) wx) ∧ Hid (Below w.heap.size w wx) ∧ Hid (acc ++ Sx.rep c new.data.toList (s.data.toList.drop start) = Sx.rep c new.data.toList s.data.toList) ∧
    Hid ((s.data.toList.drop start).count c = g) ∧ acc.length + (s.size - start) + g * new.size ≤ s.size + K * new.size)
  case atStart => exact ⟨0, 0, [], rfl, rfl, by omega, Nat.zero_le _, H1, Hb1, Lib.hid (by simp), hKd, by simp⟩
  case round =>
    obtain ⟨i, start, acc, rfl, rfl, hig, hst, HB, HW, HR, hgc, hbd⟩ := hrel
    have hBw : w.heap.size ≤ wr.heap.size := HW.out.size
    have c1 : (0 : Int) ≤ (start : Int) := by omega
    have c2 : (start : Int) ≤ (s.size : Int) := by omega
    cases gk with
    | zero =>
      have hiK : ¬ ((i : Int) < (K : Int)) := by omega
      have hfin : Hid (acc ++ s.data.toList.drop start = Sx.rep c new.data.toList s.data.toList) := Lib.hid (by rw [← HR.out, Sx.rep_none hgc.out])
      clear hgc HR
      go_wp2_with fail
      refine (writeString_k w.heap.size w.heap.size _ _ wr HB.out (by rw [Lib.byteCells_length, ByteArray.size_extract]; omega) hBw).mono ?_
      rintro e w3 ⟨rfl, h3, hb3⟩
      rw [Lib.strCells_eq, Lib.extract_to_end, ← Lib.byteCells_append, hfin.out] at h3
      have H3 := Lib.hid (Or.inr h3 : Lib.IsBuilderF 152 5 w.heap.size w.heap.size _ w3)
      have Hb3 := Lib.hid (HW.out.trans hb3)
      have hBw3 : w.heap.size ≤ w3.heap.size := Hb3.out.size
      clear h3 hb3 hfin
      go_wp2_with fail
      refine (string_k w.heap.size w.heap.size _ w3 H3.out hBw3).mono ?_
      rintro e w5 ⟨rfl, hb5⟩
      have Hb5 := Lib.hid (Hb3.out.trans hb5)
      clear hb5
      go_wp2
      go_ret
      exact ⟨rfl, Hb5.out⟩
    | succ g =>
      have hiK : (i : Int) < (K : Int) := by omega
      obtain ⟨j, hj, hjl, hrr, hcc⟩ := Sx.rep_round (new := new.data.toList) hgc.out
      have hroom : j + 1 ≤ s.size - start := by rw [List.length_drop, hlenL] at hjl; omega
      have hsucc : (g + 1) * new.size = g * new.size + new.size := Nat.succ_mul _ _
      have c3 : (start : Int) ≤ (start : Int) + (j : Int) := by omega
      have c4 : (start : Int) + (j : Int) ≤ (s.size : Int) := by omega
      have Hn := Lib.hid (show Lib.byteCells acc ++ Lib.strCells (s.extract start (start + j)) ++ Lib.strCells new = Lib.byteCells (acc ++ (s.data.toList.drop start).take j ++ new.data.toList) by
        rw [Lib.strCells_eq, Lib.strCells_eq, Lib.extract_data, Nat.add_sub_cancel_left, ← Lib.byteCells_append, ← Lib.byteCells_append])
      have Hrep := Lib.hid (show (acc ++ (s.data.toList.drop start).take j ++ new.data.toList) ++ Sx.rep c new.data.toList (s.data.toList.drop (start + j + 1)) = Sx.rep c new.data.toList s.data.toList by
        rw [← HR.out, hrr, List.drop_drop, show start + (j + 1) = start + j + 1 by omega]
        simp only [List.append_assoc])
      have Hcnt := Lib.hid (show (s.data.toList.drop (start + j + 1)).count c = g by
        rw [← hcc, List.drop_drop, show start + (j + 1) = start + j + 1 by omega])
      have htl : ((s.data.toList.drop start).take j).length = j := by rw [List.length_take]; omega
      have Hj := Lib.hid hj
      have Htl := Lib.hid htl
      clear HR hj htl hrr hcc hgc hjl
      go_wp2_with (first | (go_at_call 161; refine (HI.out _ _).mono ?_; rintro e w' ⟨rfl, hw⟩; rw [hw, Lib.extract_to_end, Hj.out]))
      refine (writeString_k w.heap.size w.heap.size _ (s.extract start (start + j)) wr HB.out (by rw [Lib.byteCells_length, ByteArray.size_extract]; omega) hBw).mono ?_
      rintro e w3 ⟨rfl, h3, hb3⟩
      have hBw3 : w.heap.size ≤ w3.heap.size := Nat.le_trans hBw hb3.size
      have H3 := Lib.hid h3
      have Hb3 := Lib.hid hb3
      clear h3 hb3
      go_wp2_with fail
      refine (writeString_k w.heap.size w.heap.size _ new w3 (Or.inr H3.out) (by rw [List.length_append, Lib.byteCells_length, Lib.strCells_length, ByteArray.size_extract]; omega) hBw3).mono ?_
      rintro e w4 ⟨rfl, h4, hb4⟩
      rw [Hn.out] at h4
      have H4 := Lib.hid (Or.inr h4 : Lib.IsBuilderF 152 5 w.heap.size w.heap.size _ w4)
      have Hb4 := Lib.hid ((HW.out.trans Hb3.out).trans hb4)
      clear h4 hb4
      go_wp2
      go_roundg g
      case measure => omega
      case rel => exact ⟨i + 1, start + j + 1, _, by first | rfl | (simp; unfold wrap64; omega), by have h1 := Hone.out; first | rfl | (simp [h1]; unfold wrap64; omega) | (simp [h1]; done), by omega, by omega, H4, Hb4, Hrep, Hcnt, by simp only [List.length_append, Htl.out, size_list]; omega⟩

set_option maxHeartbeats 4000000 in
set_option maxRecDepth 1000000 in
theorem replace_absent (s old new : ByteArray) (c : UInt8) (w : World) (ho : old = ⟨#[c]⟩) (hne : old ≠ new) (hc0 : s.data.toList.count c = 0) :
    Calls Tryz.prog 145 #[.string s, .string old, .string new, .int .i64 (-1)] w fun e w' => e = .returned (.string s) ∧ w' = w := by
  have hC : ∀ w, Calls Tryz.prog 159 #[.string s, .string old] w fun e w' => e = .returned (.int .i64 (s.data.toList.count c : Nat)) ∧ w' = w := fun w => by rw [ho]; exact Any.strings_Count_one Tryz.lays138 s c w
  rw [hc0] at hC
  have HC := Lib.hid hC
  have hbeq : (old.toList == new.toList) = false := (Lib.bytes_beq_false_iff old new).2 hne
  clear hC ho hne
  go_enter Tryz.func145, Tryz.ntmps145
  go_wp2_with (first | (go_at_call 159; refine (HC.out _).mono ?_; rintro e w' ⟨rfl, hw⟩; rw [hw]))
  go_ret
  exact ⟨rfl, rfl⟩

theorem replace_any (s new : ByteArray) (c : UInt8) (w : World) (hs : s.size ≤ 1000000) (hn : new.size ≤ 1000) (hne : (⟨#[c]⟩ : ByteArray) ≠ new) :
    Calls Tryz.prog 145 #[.string s, .string ⟨#[c]⟩, .string new, .int .i64 (-1)] w fun e w' =>
      e = .returned (.string ⟨(Sx.rep c new.data.toList s.data.toList).toArray⟩) ∧ Below w.heap.size w w' := by
  by_cases hc0 : s.data.toList.count c = 0
  · refine (replace_absent s _ new c w rfl hne hc0).mono ?_
    rintro e w' ⟨rfl, rfl⟩
    rw [Sx.rep_none hc0]
    exact ⟨rfl, Below.refl _ _⟩
  · exact replace_some s _ new c w hs hn rfl hne hc0

set_option maxRecDepth 100000 in
theorem replaceAll_any (s new : ByteArray) (c : UInt8) (w : World) (hs : s.size ≤ 1000000) (hn : new.size ≤ 1000) (hne : (⟨#[c]⟩ : ByteArray) ≠ new) :
    Calls Tryz.prog 121 #[.string s, .string ⟨#[c]⟩, .string new] w fun e w' =>
      e = .returned (.string ⟨(Sx.rep c new.data.toList s.data.toList).toArray⟩) ∧ Below w.heap.size w w' := by
  have R := Lib.hid (fun w => replace_any s new c w hs hn hne)
  generalize (⟨(Sx.rep c new.data.toList s.data.toList).toArray⟩ : ByteArray) = res at R ⊢
  generalize (⟨#[c]⟩ : ByteArray) = old at R ⊢
  clear hne
  go_enter Tryz.func121, Tryz.ntmps121
  go_wp2_with (go_at_call 145; refine (R.out _).mono ?_; rintro e w' ⟨rfl, hb⟩)
  go_ret
  exact ⟨rfl, hb⟩
end Go.Proofs.YtjacdlglbjnoeaaGreatDoor
