/- What the function Digits of the document's own answers returns: the decimal digits of a number. -/
import Derived.Test.YtjacdlglbjnoeaaGreatDoorRefQ
import Derived.Test.YtjacdlglbjnoeaaGreatDoorNum
namespace Go.Proofs.YtjacdlglbjnoeaaGreatDoor
open Go.RowKit

theorem conv_digit (n : Nat) (w : World) : (convert 134 9 (.slice (some ⟨w.heap.size, 0, none⟩) 1 1)).run Tryz.prog (w.alloc (.cells #[.int .u8 (48 + (n : Int) % 10)] 5)) =
    .ok (.string ⟨#[UInt8.ofNat (48 + n % 10)]⟩) (w.alloc (.cells #[.int .u8 (48 + (n : Int) % 10)] 5)) := by
  have e : (48 + (n : Int) % 10) = ((UInt8.ofNat (48 + n % 10)).toNat : Int) := by
    rw [UInt8.toNat_ofNat_of_lt' (by show _ < 256; omega)]; omega
  rw [e]
  have h : (w.alloc (.cells #[.int .u8 ((UInt8.ofNat (48 + n % 10)).toNat : Int)] 5)).ownsRow w.heap.size 5 1 (.slice (some ⟨w.heap.size, 0, none⟩) 1 1) 1 (Lib.byteCells [UInt8.ofNat (48 + n % 10)]) :=
    World.ownsRow_lit w #[.int .u8 ((UInt8.ofNat (48 + n % 10)).toNat : Int)] 1 (Nat.le_refl _) (by decide) (by rfl)
  exact conv_own (l := [UInt8.ofNat (48 + n % 10)]) h

theorem digit_cat (n : Nat) (t : ByteArray) : ((⟨#[UInt8.ofNat (48 + n % 10)]⟩ : ByteArray) ++ t).data.toList = UInt8.ofNat (48 + n % 10) :: t.data.toList := by simp
theorem of_list {t : ByteArray} {l : List UInt8} (h : l = t.data.toList) : t = ⟨l.toArray⟩ := by rw [h]

theorem neg_list {t : ByteArray} {l : List UInt8} (h : l = t.data.toList) : (⟨#[45]⟩ : ByteArray) ++ t = ⟨(45 :: l).toArray⟩ := by
  apply ByteArray.ext
  rw [h]
  simp

set_option maxRecDepth 100000 in
set_option maxHeartbeats 1000000 in
theorem digits_pos (n : Nat) (w : World) (h : n ≤ 1000000000000000000) :
    Calls Tryz.prog 59 #[.int .i64 n] w fun e w' => e = .returned (.string ⟨(Lib.decDigits n).toArray⟩) ∧ Below w.heap.size w w' := by
  go_enter Tryz.func59, Tryz.ntmps59
  go_wp2
  rw [conv_digit]
  simp only [Result.andThen]
  rw [Oper.upon_value]
  go_wp2
  go_loopw [3, 4] (fun u v wr => ∃ (m : Nat) (t : ByteArray), m ≤ 1000000000000000000 ∧ u = .int .u64 m ∧ v = .string t ∧ t.size + m ≤ 2000000000000000000 ∧ Below w.heap.size w wr ∧ Hid (Lib.decDigits n = Sx.dd m ++ t.data.toList)) (fun u _ _ => (intOf u).toNat)
  case atStart => exact ⟨n / 10, ⟨#[UInt8.ofNat (48 + n % 10)]⟩, by omega, by first | rfl | go_num, by simp, by show 1 + n / 10 ≤ _; omega, one _ _, Lib.hid (Sx.dec_step n)⟩
  case round =>
    obtain ⟨m, t, hm, rfl, rfl, ht, hB, hD⟩ := hrel
    have HB := Lib.hid hB
    clear hB
    have n1 : ¬ 9223372036854775807 < 1 + t.size := by omega
    by_cases h0 : m = 0
    · subst h0
      have hfin := of_list hD.out
      have HF := Lib.hid hfin
      clear hfin hD
      go_wp2
      go_ret
      exact ⟨congrArg (fun x => Ending.returned (.string x)) HF.out, HB.out⟩
    · have hD' : Hid (Lib.decDigits n = Sx.dd (m / 10) ++ (UInt8.ofNat (48 + m % 10) :: t.data.toList)) := Lib.hid (by rw [hD.out, Sx.dd_step m (by omega)]; simp)
      have hpos : (0 : Int) < m := by omega
      clear hD
      go_wp2
      rw [conv_digit]
      simp only [Result.andThen]
      rw [Oper.upon_value]
      go_wp2
      go_roundw
      case rel => exact ⟨m / 10, (⟨#[UInt8.ofNat (48 + m % 10)]⟩ : ByteArray) ++ t, by omega, by first | rfl | go_num, by simp, by rw [ByteArray.size_append]; show 1 + t.size + m / 10 ≤ _; omega, HB.out.trans (one _ _ |>.mono HB.out.size), by rw [digit_cat]; exact hD'⟩
      case measure => simp [intOf]; omega
set_option maxRecDepth 100000 in
set_option maxHeartbeats 1000000 in
theorem digits_neg (n : Nat) (w : World) (h : n ≤ 1000000000000000000) (hn : 0 < n) :
    Calls Tryz.prog 59 #[.int .i64 (-(n : Int))] w fun e w' => e = .returned (.string ⟨(45 :: Lib.decDigits n).toArray⟩) ∧ Below w.heap.size w w' := by
  have g0 : -(n : Int) < 0 := by omega
  have gw : IntKind.u64.wrap (-IntKind.u64.wrap (-(n : Int))) = n := by simp [IntKind.wrap, IntKind.bits, IntKind.signed]; omega
  go_enter Tryz.func59, Tryz.ntmps59
  go_wp2
  rw [conv_digit]
  simp only [Result.andThen]
  rw [Oper.upon_value]
  go_wp2
  go_loopw [3, 4] (fun u v wr => ∃ (m : Nat) (t : ByteArray), m ≤ 1000000000000000000 ∧ u = .int .u64 m ∧ v = .string t ∧ t.size + m ≤ 2000000000000000000 ∧ Below w.heap.size w wr ∧ Hid (Lib.decDigits n = Sx.dd m ++ t.data.toList)) (fun u _ _ => (intOf u).toNat)
  case atStart => exact ⟨n / 10, ⟨#[UInt8.ofNat (48 + n % 10)]⟩, by omega, by first | rfl | go_num, by simp, by show 1 + n / 10 ≤ _; omega, one _ _, Lib.hid (Sx.dec_step n)⟩
  case round =>
    obtain ⟨m, t, hm, rfl, rfl, ht, hB, hD⟩ := hrel
    have HB := Lib.hid hB
    clear hB
    have n1 : ¬ 9223372036854775807 < 1 + t.size := by omega
    by_cases h0 : m = 0
    · subst h0
      have hfin := neg_list hD.out
      have HF := Lib.hid hfin
      clear hfin hD
      go_wp2
      go_ret
      exact ⟨congrArg (fun x => Ending.returned (.string x)) HF.out, HB.out⟩
    · have hD' : Hid (Lib.decDigits n = Sx.dd (m / 10) ++ (UInt8.ofNat (48 + m % 10) :: t.data.toList)) := Lib.hid (by rw [hD.out, Sx.dd_step m (by omega)]; simp)
      have hpos : (0 : Int) < m := by omega
      clear hD
      go_wp2
      rw [conv_digit]
      simp only [Result.andThen]
      rw [Oper.upon_value]
      go_wp2
      go_roundw
      case rel => exact ⟨m / 10, (⟨#[UInt8.ofNat (48 + m % 10)]⟩ : ByteArray) ++ t, by omega, by first | rfl | go_num, by simp, by rw [ByteArray.size_append]; show 1 + t.size + m / 10 ≤ _; omega, HB.out.trans (one _ _ |>.mono HB.out.size), by rw [digit_cat]; exact hD'⟩
      case measure => simp [intOf]; omega

theorem digits_any (n : Int) (w : World) (h1 : -1000000000000 ≤ n) (h2 : n ≤ 1000000000000) :
    Calls Tryz.prog 59 #[.int .i64 n] w fun e w' => e = .returned (.string ⟨(Lib.itoa n).toArray⟩) ∧ Below w.heap.size w w' := by
  by_cases h : n < 0
  · have e : Lib.itoa n = 45 :: Lib.decDigits n.natAbs := by unfold Lib.itoa; rw [if_pos h]
    rw [e]
    have hn : n = -(n.natAbs : Int) := by omega
    generalize n.natAbs = k at hn
    subst hn
    exact digits_neg k w (by omega) (by omega)
  · have e : Lib.itoa n = Lib.decDigits n.toNat := by unfold Lib.itoa; rw [if_neg h]
    rw [e]
    have hn : n = (n.toNat : Int) := by omega
    generalize n.toNat = k at hn
    subst hn
    exact digits_pos k w (by omega)
end Go.Proofs.YtjacdlglbjnoeaaGreatDoor
