/- What shape.Quote returns for a text that has been checked. -/
import Derived.Test.YtjacdlglbjnoeaaGreatDoorRep
namespace Go.Proofs.YtjacdlglbjnoeaaGreatDoor
open Go.RowKit

/-- The quote with a text. -/
def quoS (s : ByteArray) : ByteArray := ⟨([34] ++ Sx.esc s.data.toList ++ [34]).toArray⟩
theorem quo_cat (s : ByteArray) : (⟨#[34]⟩ : ByteArray) ++ ⟨(Sx.rep 34 [92, 34] (Sx.rep 92 [92, 92] s.data.toList)).toArray⟩ ++ ⟨#[34]⟩ = quoS s := by
  rw [Sx.rep_rep]
  unfold quoS
  apply ByteArray.ext
  simp

set_option maxRecDepth 100000 in
theorem quo_any (s : ByteArray) (w : World) (hs : s.size ≤ 1000) :
    Calls Tryz.prog 94 #[.string s] w fun e w' => e = .returned (.string (quoS s)) ∧ Below w.heap.size w w' := by
  have hl : (Sx.rep 92 [92, 92] s.data.toList).length ≤ 2000 := by
    have h1 := Sx.rep_len 92 [92, 92] (by simp) s.data.toList
    have h2 := size_list s
    simp only [List.length_cons, List.length_nil] at h1
    omega
  obtain ⟨t1, ht1⟩ : ∃ t : ByteArray, t = ⟨(Sx.rep 92 [92, 92] s.data.toList).toArray⟩ := ⟨_, rfl⟩
  obtain ⟨t2, ht2⟩ : ∃ t : ByteArray, t = ⟨(Sx.rep 34 [92, 34] (Sx.rep 92 [92, 92] s.data.toList)).toArray⟩ := ⟨_, rfl⟩
  have hl1 : t1.data.toList = Sx.rep 92 [92, 92] s.data.toList := by rw [ht1]
  have hl2 : t1.size ≤ 1000000 := by rw [← size_list, hl1]; omega
  have R1 : Hid (∀ w : World, Calls Tryz.prog 121 #[.string s, .string ⟨#[92]⟩, .string ⟨#[92, 92]⟩] w fun e w' => e = .returned (.string t1) ∧ Below w.heap.size w w') :=
    Lib.hid fun w => by rw [ht1]; exact replaceAll_any s ⟨#[92, 92]⟩ 92 w (by omega) (by decide) (by intro h; cases h)
  have R2 : Hid (∀ w : World, Calls Tryz.prog 121 #[.string t1, .string ⟨#[34]⟩, .string ⟨#[92, 34]⟩] w fun e w' => e = .returned (.string t2) ∧ Below w.heap.size w w') :=
    Lib.hid fun w => by rw [ht2, ← hl1]; exact replaceAll_any t1 ⟨#[92, 34]⟩ 34 w hl2 (by decide) (by intro h; cases h)
  have hl3 : t2.size ≤ 4000 := by
    have h1 := Sx.rep_len 34 [92, 34] (by simp) (Sx.rep 92 [92, 92] s.data.toList)
    simp only [List.length_cons, List.length_nil] at h1
    rw [← size_list, ht2]
    show (Sx.rep 34 [92, 34] (Sx.rep 92 [92, 92] s.data.toList)).length ≤ 4000
    omega
  have n1 : ¬ 9223372036854775807 < 1 + t2.size := by omega
  have n2 : ¬ 9223372036854775807 < 1 + t2.size + 1 := by omega
  have Q : (⟨#[34]⟩ : ByteArray) ++ t2 ++ ⟨#[34]⟩ = quoS s := by rw [ht2]; exact quo_cat s
  have HQ := Lib.hid Q
  clear hl ht1 ht2 hl1 hl2 hl3 Q
  go_enter Tryz.func94, Tryz.ntmps94
  go_wp2_with fail
  refine (R1.out _).mono ?_
  rintro e w1 ⟨rfl, hb1⟩
  have HB1 := Lib.hid hb1
  clear hb1
  go_wp2_with fail
  refine (R2.out _).mono ?_
  rintro e w2 ⟨rfl, hb2⟩
  have HB2 := Lib.hid hb2
  clear hb2
  go_wp2
  go_ret
  exact ⟨congrArg (fun x => Ending.returned (.string x)) HQ.out, HB1.out.trans (HB2.out.mono HB1.out.size)⟩
end Go.Proofs.YtjacdlglbjnoeaaGreatDoor
