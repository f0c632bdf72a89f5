/- Comparing numbers and texts. -/
import Derived.Test.YtjacdlglbjnoeaaGreatDoorBoth
namespace Go.Proofs.YtjacdlglbjnoeaaGreatDoor
open Go.RowKit

theorem nanI (x : Int) (w : World) : Calls Tryz.prog 153 #[.int .i64 x] w fun e w' => e = .returned (.bool false) ∧ w = w' := by
  go_enter Tryz.func153, Tryz.ntmps153
  go_wp2
  go_ret
  exact ⟨by simp, rfl⟩
theorem nanS (x : ByteArray) (w : World) : Calls Tryz.prog 154 #[.string x] w fun e w' => e = .returned (.bool false) ∧ w = w' := by
  go_enter Tryz.func154, Tryz.ntmps154
  go_wp2
  go_ret
  exact ⟨by simp, rfl⟩

def cmpI (x y : Int) : Int := if x < y then -1 else if y < x then 1 else 0
theorem compareI (x y : Int) (w : World) : Calls Tryz.prog 142 #[.int .i64 x, .int .i64 y] w fun e w' => e = .returned (.int .i64 (cmpI x y)) ∧ w = w' := by
  by_cases h1 : x < y
  · rw [show cmpI x y = -1 from if_pos h1]
    go_enter Tryz.func142, Tryz.ntmps142
    go_wp2_with (first | (go_at_call 153; refine (nanI _ _).mono ?_; rintro e w' ⟨rfl, rfl⟩))
    go_ret
    exact ⟨rfl, rfl⟩
  · by_cases h2 : y < x
    · rw [show cmpI x y = 1 from by unfold cmpI; rw [if_neg h1, if_pos h2]]
      go_enter Tryz.func142, Tryz.ntmps142
      go_wp2_with (first | (go_at_call 153; refine (nanI _ _).mono ?_; rintro e w' ⟨rfl, rfl⟩))
      go_ret
      exact ⟨rfl, rfl⟩
    · rw [show cmpI x y = 0 from by unfold cmpI; rw [if_neg h1, if_neg h2]]
      go_enter Tryz.func142, Tryz.ntmps142
      go_wp2_with (first | (go_at_call 153; refine (nanI _ _).mono ?_; rintro e w' ⟨rfl, rfl⟩))
      go_ret
      exact ⟨rfl, rfl⟩
def cmpS (x y : ByteArray) : Int := if Op.bytesLess x.toList y.toList then -1 else if x.toList == y.toList then 0 else 1
theorem compareS (x y : ByteArray) (w : World) : Calls Tryz.prog 143 #[.string x, .string y] w fun e w' => e = .returned (.int .i64 (cmpS x y)) ∧ w = w' := by
  cases h1 : Op.bytesLess x.toList y.toList
  · cases h2 : (x.toList == y.toList)
    · rw [show cmpS x y = 1 from by unfold cmpS; rw [h1, h2]; rfl]
      go_enter Tryz.func143, Tryz.ntmps143
      go_wp2_with (first | (go_at_call 154; refine (nanS _ _).mono ?_; rintro e w' ⟨rfl, rfl⟩))
      go_ret
      exact ⟨rfl, rfl⟩
    · rw [show cmpS x y = 0 from by unfold cmpS; rw [h1, h2]; rfl]
      go_enter Tryz.func143, Tryz.ntmps143
      go_wp2_with (first | (go_at_call 154; refine (nanS _ _).mono ?_; rintro e w' ⟨rfl, rfl⟩))
      go_ret
      exact ⟨rfl, rfl⟩
  · rw [show cmpS x y = -1 from by unfold cmpS; rw [h1]; rfl]
    go_enter Tryz.func143, Tryz.ntmps143
    go_wp2_with (first | (go_at_call 154; refine (nanS _ _).mono ?_; rintro e w' ⟨rfl, rfl⟩))
    go_ret
    exact ⟨rfl, rfl⟩

def ordB (op c : Int) : Bool := if op = 11 then decide (c < 0) else if op = 12 then decide (c ≤ 0) else if op = 13 then decide (0 < c) else decide (0 ≤ c)
theorem cmpI_three (x y : Int) : cmpI x y = -1 ∨ cmpI x y = 0 ∨ cmpI x y = 1 := by
  unfold cmpI
  by_cases h1 : x < y
  · simp [h1]
  · by_cases h2 : y < x <;> simp [h1, h2]
theorem cmpS_three (x y : ByteArray) : cmpS x y = -1 ∨ cmpS x y = 0 ∨ cmpS x y = 1 := by
  unfold cmpS
  cases h1 : Op.bytesLess x.toList y.toList <;> cases h2 : (x.toList == y.toList) <;> simp

theorem inOrderI (op x y : Int) (w : World) (h : op = 11 ∨ op = 12 ∨ op = 13 ∨ op = 14) : Calls Tryz.prog 114 #[.int .i64 op, .int .i64 x, .int .i64 y] w fun e w' => e = .returned (.bool (ordB op (cmpI x y))) ∧ w = w' := by
  have K := compareI x y
  have hc := cmpI_three x y
  generalize cmpI x y = c at K hc
  have KK := Lib.hid K
  clear K
  rcases h with rfl | rfl | rfl | rfl <;> rcases hc with rfl | rfl | rfl <;>
  · go_enter Tryz.func114, Tryz.ntmps114
    go_wp2_with (first | (go_at_call 142; refine (KK.out _).mono ?_; rintro e w' ⟨rfl, rfl⟩))
    go_ret
    exact ⟨by simp [ordB], rfl⟩
theorem inOrderS (op : Int) (x y : ByteArray) (w : World) (h : op = 11 ∨ op = 12 ∨ op = 13 ∨ op = 14) : Calls Tryz.prog 115 #[.int .i64 op, .string x, .string y] w fun e w' => e = .returned (.bool (ordB op (cmpS x y))) ∧ w = w' := by
  have K := compareS x y
  have hc := cmpS_three x y
  generalize cmpS x y = c at K hc
  have KK := Lib.hid K
  clear K
  rcases h with rfl | rfl | rfl | rfl <;> rcases hc with rfl | rfl | rfl <;>
  · go_enter Tryz.func115, Tryz.ntmps115
    go_wp2_with (first | (go_at_call 143; refine (KK.out _).mono ?_; rintro e w' ⟨rfl, rfl⟩))
    go_ret
    exact ⟨by simp [ordB], rfl⟩

/-- The outcome that is a truth value. -/
abbrev boolV (b : Bool) : Value := outV 2 (if b then 1 else 0) noS 0 noS

set_option maxRecDepth 100000 in
theorem order_int (op x y : Int) (s t : ByteArray) (b : Nat) (w : World) (hop : op = 11 ∨ op = 12 ∨ op = 13 ∨ op = 14) (hc0 : w.cell? ⟨b, 0, none⟩ = some (.int .i64 op)) :
    Calls Tryz.prog 112 #[valV 1 x s, valV 1 y t, .pointer (some ⟨b, 0, none⟩)] w fun e w' => e = .returned (boolV (ordB op (cmpI x y))) ∧ Below w.heap.size w w' := by
  have K := fun w => inOrderI op x y w hop
  generalize ordB op (cmpI x y) = r at K
  have KK := Lib.hid K
  clear hop K
  cases r <;>
  · go_enter Tryz.func112, Tryz.ntmps112
    go_wp2_with (first | (go_at_call 113; refine (both_yes _ _ _ _ _ _).mono ?_; rintro e w1 ⟨rfl, hb⟩; obtain ⟨hg1, z0, z1, z2⟩ := grown3 hb; obtain ⟨hc, hf⟩ := bcell hb; have hcb := cell_of hg1 hc0; clear hc0) | (go_at_call 114; refine (KK.out _).mono ?_; rintro e w' ⟨rfl, rfl⟩) | (go_at_call 79; refine (truth_any _ _).mono ?_; rintro e w2 ⟨rfl, hb2⟩; obtain ⟨hc2, hf2⟩ := bcell hb2; clear hcb))
    have hg := then2 hg1 hb2
    have hz := hb2.size
    have z3 : w.heap.size + 1 + 1 < w2.heap.size := by omega
    exact bodyPost_ret (v := boolV _) (by simp [results, Tryz.results112, go_sem, hc, hc2, z2]) rfl ⟨rfl, by (repeat (first | with_reducible exact hg | with_reducible refine Below.setCell ?_ (by first | (simp; done) | (simp; omega)) _))⟩

set_option maxRecDepth 100000 in
theorem order_text (op n m : Int) (s t : ByteArray) (b : Nat) (w : World) (hop : op = 11 ∨ op = 12 ∨ op = 13 ∨ op = 14) (hc0 : w.cell? ⟨b, 0, none⟩ = some (.int .i64 op)) :
    Calls Tryz.prog 112 #[valV 3 n s, valV 3 m t, .pointer (some ⟨b, 0, none⟩)] w fun e w' => e = .returned (boolV (ordB op (cmpS s t))) ∧ Below w.heap.size w w' := by
  have K := fun w => inOrderS op s t w hop
  generalize ordB op (cmpS s t) = r at K
  have KK := Lib.hid K
  clear hop K
  cases r <;>
  · go_enter Tryz.func112, Tryz.ntmps112
    go_wp2_with fail
    refine (both_no _ _ _ _ _ _ _ _ (by omega)).mono ?_
    rintro e w1 ⟨rfl, hb⟩
    obtain ⟨hg1, z0, z1, z2⟩ := grown3 hb
    obtain ⟨hc, hf⟩ := bcell hb
    have hcb := cell_of hg1 hc0
    clear hc0
    go_wp2_with fail
    refine (both_yes _ _ _ _ _ _).mono ?_
    rintro e w2 ⟨rfl, hb2⟩
    have hcb2 := cell_of hb2 hcb
    have hg2 := then2 hg1 hb2
    obtain ⟨hc2, hf2⟩ := bcell hb2
    have hz := hb2.size
    have y0 : w.heap.size < w2.heap.size := by omega
    have y1 : w.heap.size + 1 < w2.heap.size := by omega
    have y2 : w.heap.size + 1 + 1 < w2.heap.size := by omega
    clear hcb hz
    go_wp2_with (first | (go_at_call 115; refine (KK.out _).mono ?_; rintro e w' ⟨rfl, rfl⟩) | (go_at_call 79; refine (truth_any _ _).mono ?_; rintro e w3 ⟨rfl, hb3⟩; obtain ⟨hc3, hf3⟩ := bcell hb3; clear hcb2))
    have hg := then2 hg2 hb3
    have hz := hb3.size
    have x3 : w.heap.size + 1 + 1 < w3.heap.size := by omega
    exact bodyPost_ret (v := boolV _) (by simp [results, Tryz.results112, go_sem, hc, hc2, hc3, z2, y2]) rfl ⟨rfl, by (repeat (first | with_reducible exact hg | with_reducible refine Below.setCell ?_ (by first | (simp; done) | (simp; omega)) _))⟩

set_option maxRecDepth 100000 in
theorem order_kind (k k' n m : Int) (s t : ByteArray) (p : Option Addr) (w : World) (h1 : ¬ (k = 1 ∧ k' = 1)) (h3 : ¬ (k = 3 ∧ k' = 3)) :
    Calls Tryz.prog 112 #[valV k n s, valV k' m t, .pointer p] w fun e w' => e = .returned (outV 0 0 noS 1 kindS) ∧ Below w.heap.size w w' := by
  have H1 := Lib.hid h1
  have H3 := Lib.hid h3
  clear h1 h3
  go_enter Tryz.func112, Tryz.ntmps112
  go_wp2_with fail
  refine (both_no _ _ _ _ _ _ _ _ H1.out).mono ?_
  rintro e w1 ⟨rfl, hb⟩
  obtain ⟨hg1, z0, z1, z2⟩ := grown3 hb
  obtain ⟨hc, hf⟩ := bcell hb
  go_wp2_with fail
  refine (both_no _ _ _ _ _ _ _ _ H3.out).mono ?_
  rintro e w2 ⟨rfl, hb2⟩
  have hg2 := then2 hg1 hb2
  obtain ⟨hc2, hf2⟩ := bcell hb2
  have hz := hb2.size
  have y0 : w.heap.size < w2.heap.size := by omega
  have y1 : w.heap.size + 1 < w2.heap.size := by omega
  have y2 : w.heap.size + 1 + 1 < w2.heap.size := by omega
  clear hz
  go_wp2_with (first | (go_at_call 78; refine (fault_any _ _).mono ?_; rintro e w3 ⟨rfl, hb3⟩; obtain ⟨hc3, hf3⟩ := bcell hb3))
  have hg := then2 hg2 hb3
  have hz := hb3.size
  have x3 : w.heap.size + 1 + 1 < w3.heap.size := by omega
  exact bodyPost_ret (v := outV 0 0 noS 1 kindS) (by simp [results, Tryz.results112, go_sem, hc, hc2, hc3, z2, y2]) rfl ⟨rfl, by (repeat (first | with_reducible exact hg | with_reducible refine Below.setCell ?_ (by first | (simp; done) | (simp; omega)) _))⟩
end Go.Proofs.YtjacdlglbjnoeaaGreatDoor
