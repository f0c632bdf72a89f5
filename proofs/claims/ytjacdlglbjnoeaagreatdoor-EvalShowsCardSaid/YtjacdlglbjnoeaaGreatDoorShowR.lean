/- What Show returns, and what the function Show of the document's own answers returns. -/
import Derived.Test.YtjacdlglbjnoeaaGreatDoorShowC
import Derived.Test.YtjacdlglbjnoeaaGreatDoorDig
import Derived.Test.YtjacdlglbjnoeaaGreatDoorKValid
namespace Go.Proofs.YtjacdlglbjnoeaaGreatDoor
open Go.RowKit

/-- What a valid value is, by its kind. -/
theorem valid_cases {k n : Int} {s : ByteArray} (h : validB k n s = true) :
    (k = 0 ∧ n = 0 ∧ s = noS) ∨ (k = 1 ∧ s = noS ∧ -1000000000000 ≤ n ∧ n ≤ 1000000000000) ∨ (k = 2 ∧ s = noS ∧ (n = 0 ∨ n = 1)) ∨ (k = 3 ∧ n = 0 ∧ s.size ≤ 60) ∨ ((k = 4 ∨ k = 5 ∨ k = 6) ∧ s = noS ∧ 1 ≤ n ∧ n ≤ 1000000000000) := by
  unfold validB at h
  by_cases h0 : k = 0
  · rw [if_pos h0] at h
    simp only [Bool.and_eq_true, decide_eq_true_eq] at h
    exact .inl ⟨h0, h.1, nil_of h.2⟩
  rw [if_neg h0] at h
  by_cases h1 : k = 1
  · rw [if_pos h1] at h
    simp only [Bool.and_eq_true, decide_eq_true_eq] at h
    exact .inr (.inl ⟨h1, nil_of h.1, h.2.1, h.2.2⟩)
  rw [if_neg h1] at h
  by_cases h2 : k = 2
  · rw [if_pos h2] at h
    simp only [Bool.and_eq_true, decide_eq_true_eq] at h
    exact .inr (.inr (.inl ⟨h2, nil_of h.1, h.2⟩))
  rw [if_neg h2] at h
  by_cases h3 : k = 3
  · rw [if_pos h3] at h
    simp only [Bool.and_eq_true, decide_eq_true_eq, textB] at h
    exact .inr (.inr (.inr (.inl ⟨h3, h.1, by have := h.2.1; rw [size_list] at this; exact this⟩)))
  rw [if_neg h3] at h
  by_cases h4 : k = 4 ∨ k = 5 ∨ k = 6
  · rw [if_pos h4] at h
    simp only [Bool.and_eq_true, decide_eq_true_eq] at h
    exact .inr (.inr (.inr (.inr ⟨h4, nil_of h.1, h.2.1, h.2.2⟩)))
  · rw [if_neg h4] at h; cases h

theorem show_any (k n : Int) (s : ByteArray) (w : World) (hv : validB k n s = true) (hh : HandT w) : Calls Tryz.prog 58 #[valV k n s] w fun e w' => e = .returned (.string (showS k n s)) ∧ Below w.heap.size w w' := by
  rcases valid_cases hv with ⟨rfl, rfl, rfl⟩ | ⟨rfl, rfl, h1, h2⟩ | ⟨rfl, rfl, rfl | rfl⟩ | ⟨rfl, rfl, h1⟩ | ⟨h4, rfl, h1, h2⟩
  · exact show_0 0 noS w
  · exact show_1 n noS w h1 h2 hh.2
  · exact show_2f w
  · exact show_true w
  · exact show_3 0 s w (by omega)
  · have e : showS k n noS = wordS k ++ ⟨#[35]⟩ ++ itoaS n := by
      unfold showS
      rw [if_neg (by omega), if_neg (by omega), if_neg (by omega), if_neg (by omega)]
    rw [e]
    rcases h4 with rfl | rfl | rfl
    · exact show_4 4 n chanS noS w (by omega) (by omega) h2 hh.2 (by decide) hh.1.1
    · exact show_4 5 n taskS noS w (by omega) (by omega) h2 hh.2 (by decide) hh.1.2.1
    · exact show_4 6 n lockS noS w (by omega) (by omega) h2 hh.2 (by decide) hh.1.2.2

set_option maxRecDepth 100000 in
set_option maxHeartbeats 1000000 in
theorem showR_ok (k n : Int) (s : ByteArray) (w : World) (hs : s.size ≤ 9223372036854775807) (hv : validB k n s = true) (hh : HandT w) : Calls Tryz.prog 30 #[valV k n s] w fun e w' => e = .returned (.tuple #[.string (showS k n s), .int .i64 0]) ∧ Below w.heap.size w w' := by
  have V1 := fun w => wrong_any k n s w hs
  rw [hv] at V1
  have W1 := Lib.hid V1
  have S := Lib.hid (fun w1 (hb : Below w.heap.size w w1) => show_any k n s w1 hv (hh.below hb))
  generalize showS k n s = q at S ⊢
  clear V1 hh hv
  go_enter Tryz.func30, Tryz.ntmps30
  go_wp2_with fail
  refine (W1.out _).mono ?_
  rintro e w1 ⟨rfl, hb1⟩
  obtain ⟨hg1, z0⟩ := grown hb1
  obtain ⟨hc, hf⟩ := bcell hb1
  go_wp2_with fail
  refine (S.out _ hg1).mono ?_
  rintro e w2 ⟨rfl, hb2⟩
  go_wp2
  go_ret2
  exact ⟨rfl, then2 hg1 hb2⟩

set_option maxRecDepth 100000 in
set_option maxHeartbeats 1000000 in
theorem showR_bad (k n : Int) (s : ByteArray) (w : World) (hs : s.size ≤ 9223372036854775807) (hv : validB k n s = false) : Calls Tryz.prog 30 #[valV k n s] w fun e w' => e = .returned (.tuple #[.string noS, .int .i64 2]) ∧ Below w.heap.size w w' := by
  have V1 := fun w => wrong_any k n s w hs
  rw [hv] at V1
  have W1 := Lib.hid V1
  clear V1 hv
  go_enter Tryz.func30, Tryz.ntmps30
  go_wp2_with fail
  refine (W1.out _).mono ?_
  rintro e w1 ⟨rfl, hb1⟩
  obtain ⟨hg1, z0⟩ := grown hb1
  obtain ⟨hc, hf⟩ := bcell hb1
  go_wp2
  go_ret2
  exact ⟨rfl, hg1⟩

theorem rshow_0 (n : Int) (s : ByteArray) (w : World) : Calls Tryz.prog 31 #[valV 0 n s] w fun e w' => e = .returned (.string unitS) ∧ Below w.heap.size w w' := by
  go_enter Tryz.func31, Tryz.ntmps31
  go_wp2
  go_ret
  exact ⟨rfl, one _ _⟩

set_option maxRecDepth 100000 in
set_option maxHeartbeats 1000000 in
theorem rshow_1 (n : Int) (s : ByteArray) (w : World) (h1 : -1000000000000 ≤ n) (h2 : n ≤ 1000000000000) : Calls Tryz.prog 31 #[valV 1 n s] w fun e w' => e = .returned (.string (itoaS n)) ∧ Below w.heap.size w w' := by
  have D := Lib.hid (fun w1 => digits_any n w1 h1 h2)
  go_enter Tryz.func31, Tryz.ntmps31
  go_wp2_with (go_at_call 59; refine (D.out _).mono ?_; rintro e w1 ⟨rfl, hb⟩)
  go_ret
  exact ⟨rfl, (grown hb).1⟩

set_option maxRecDepth 100000 in
theorem rshow_2 (n : Int) (s : ByteArray) (w : World) (h : n = 0 ∨ n = 1) : Calls Tryz.prog 31 #[valV 2 n s] w fun e w' => e = .returned (.string (if n = 1 then trueS else falseS)) ∧ Below w.heap.size w w' := by
  rcases h with rfl | rfl <;>
  · go_enter Tryz.func31, Tryz.ntmps31
    go_wp2
    go_ret
    exact ⟨rfl, one _ _⟩

set_option maxRecDepth 100000 in
set_option maxHeartbeats 1000000 in
theorem rshow_3 (n : Int) (s : ByteArray) (w : World) (hs : s.size ≤ 1000) : Calls Tryz.prog 31 #[valV 3 n s] w fun e w' => e = .returned (.string (quoS s)) ∧ Below w.heap.size w w' := by
  have D : Hid (∀ w1 : World, Calls Tryz.prog 60 #[.string s] w1 fun e w' => e = .returned (.string (quoS s)) ∧ Below w1.heap.size w1 w') := Lib.hid (fun w1 => refQuote_any s w1 (by omega))
  generalize quoS s = q at D ⊢
  go_enter Tryz.func31, Tryz.ntmps31
  go_wp2_with (go_at_call 60; refine (D.out _).mono ?_; rintro e w1 ⟨rfl, hb⟩)
  go_ret
  exact ⟨rfl, (grown hb).1⟩

set_option maxRecDepth 100000 in
set_option maxHeartbeats 2000000 in
theorem rshow_4 (k n : Int) (s : ByteArray) (w : World) (hk : k = 4 ∨ k = 5 ∨ k = 6) (h1 : -1000000000000 ≤ n) (h2 : n ≤ 1000000000000) : Calls Tryz.prog 31 #[valV k n s] w fun e w' => e = .returned (.string (wordS k ++ ⟨#[35]⟩ ++ itoaS n)) ∧ Below w.heap.size w w' := by
  have D : Hid (∀ w1 : World, Calls Tryz.prog 59 #[.int .i64 n] w1 fun e w' => e = .returned (.string (itoaS n)) ∧ Below w1.heap.size w1 w') := Lib.hid (fun w1 => digits_any n w1 h1 h2)
  have hl := itoaS_len n (by omega) (by omega)
  generalize itoaS n = q at D hl ⊢
  have n1 : ¬ 9223372036854775807 < 5 + q.size := by omega
  have x0 : ∀ w : World, (Instr.index 99 (.agg #[.string ⟨#[99, 104, 97, 110, 35]⟩, .string ⟨#[116, 97, 115, 107, 35]⟩, .string ⟨#[108, 111, 99, 107, 35]⟩]) (.int .i64 (IntKind.i64.wrap 0))).run Tryz.prog w = .ok (.string ⟨#[99, 104, 97, 110, 35]⟩) w := fun _ => by kernel_rfl
  have x1 : ∀ w : World, (Instr.index 99 (.agg #[.string ⟨#[99, 104, 97, 110, 35]⟩, .string ⟨#[116, 97, 115, 107, 35]⟩, .string ⟨#[108, 111, 99, 107, 35]⟩]) (.int .i64 (IntKind.i64.wrap 1))).run Tryz.prog w = .ok (.string ⟨#[116, 97, 115, 107, 35]⟩) w := fun _ => by kernel_rfl
  have x2 : ∀ w : World, (Instr.index 99 (.agg #[.string ⟨#[99, 104, 97, 110, 35]⟩, .string ⟨#[116, 97, 115, 107, 35]⟩, .string ⟨#[108, 111, 99, 107, 35]⟩]) (.int .i64 (IntKind.i64.wrap 2))).run Tryz.prog w = .ok (.string ⟨#[108, 111, 99, 107, 35]⟩) w := fun _ => by kernel_rfl
  rcases hk with rfl | rfl | rfl
  · rw [show wordS 4 ++ (⟨#[35]⟩ : ByteArray) = ⟨#[99, 104, 97, 110, 35]⟩ from by apply ByteArray.ext; rfl]
    go_enter Tryz.func31, Tryz.ntmps31
    go_wp2
    go_region_with (go_at_call 59; refine (D.out _).mono ?_; rintro e w2 ⟨rfl, hb2⟩; have hbb := Lib.hid (new1_then hb2); obtain ⟨hc2, hf2⟩ := bcell hb2)
    all_goals (go_wp2; go_ret)
    all_goals exact ⟨rfl, hbb.out⟩
  · rw [show wordS 5 ++ (⟨#[35]⟩ : ByteArray) = ⟨#[116, 97, 115, 107, 35]⟩ from by apply ByteArray.ext; rfl]
    go_enter Tryz.func31, Tryz.ntmps31
    go_wp2
    go_region_with (go_at_call 59; refine (D.out _).mono ?_; rintro e w2 ⟨rfl, hb2⟩; have hbb := Lib.hid (new1_then hb2); obtain ⟨hc2, hf2⟩ := bcell hb2)
    all_goals (go_wp2; go_ret)
    all_goals exact ⟨rfl, hbb.out⟩
  · rw [show wordS 6 ++ (⟨#[35]⟩ : ByteArray) = ⟨#[108, 111, 99, 107, 35]⟩ from by apply ByteArray.ext; rfl]
    go_enter Tryz.func31, Tryz.ntmps31
    go_wp2
    go_region_with (go_at_call 59; refine (D.out _).mono ?_; rintro e w2 ⟨rfl, hb2⟩; have hbb := Lib.hid (new1_then hb2); obtain ⟨hc2, hf2⟩ := bcell hb2)
    all_goals (go_wp2; go_ret)
    all_goals exact ⟨rfl, hbb.out⟩

theorem rshow_any (k n : Int) (s : ByteArray) (w : World) (hv : validB k n s = true) : Calls Tryz.prog 31 #[valV k n s] w fun e w' => e = .returned (.string (showS k n s)) ∧ Below w.heap.size w w' := by
  rcases valid_cases hv with ⟨rfl, rfl, rfl⟩ | ⟨rfl, rfl, h1, h2⟩ | ⟨rfl, rfl, h1⟩ | ⟨rfl, rfl, h1⟩ | ⟨h4, rfl, h1, h2⟩
  · exact rshow_0 0 noS w
  · exact rshow_1 n noS w h1 h2
  · exact rshow_2 n noS w h1
  · exact rshow_3 0 s w (by omega)
  · have e : showS k n noS = wordS k ++ ⟨#[35]⟩ ++ itoaS n := by
      unfold showS
      rw [if_neg (by omega), if_neg (by omega), if_neg (by omega), if_neg (by omega)]
    rw [e]
    exact rshow_4 k n noS w h4 (by omega) h2
end Go.Proofs.YtjacdlglbjnoeaaGreatDoor
