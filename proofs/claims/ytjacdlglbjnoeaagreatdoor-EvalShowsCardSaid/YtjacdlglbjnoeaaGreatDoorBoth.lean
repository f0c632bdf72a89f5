/- Whether two values have a kind; the closure of an arithmetical operator. -/
import Derived.Test.YtjacdlglbjnoeaaGreatDoorNum
namespace Go.Proofs.YtjacdlglbjnoeaaGreatDoor
open Go.RowKit

theorem both_yes (k n m : Int) (s t : ByteArray) (w : World) : Calls Tryz.prog 113 #[.int .i64 k, valV k n s, valV k m t] w fun e w' => e = .returned (.bool true) ∧ Below w.heap.size w w' := by
  go_enter Tryz.func113, Tryz.ntmps113
  go_wp2
  go_ret
  exact ⟨rfl, ((one _ _).alloc (by simp) _)⟩

theorem both_no (k a b n m : Int) (s t : ByteArray) (w : World) (h : ¬ (a = k ∧ b = k)) : Calls Tryz.prog 113 #[.int .i64 k, valV a n s, valV b m t] w fun e w' => e = .returned (.bool false) ∧ Below w.heap.size w w' := by
  by_cases ha : a = k
  · subst ha
    have hb : b ≠ a := fun e => h ⟨rfl, e⟩
    clear h
    go_enter Tryz.func113, Tryz.ntmps113
    go_wp2
    go_ret
    exact ⟨by simp [hb], ((one _ _).alloc (by simp) _)⟩
  · clear h
    go_enter Tryz.func113, Tryz.ntmps113
    go_wp2
    go_ret
    exact ⟨rfl, ((one _ _).alloc (by simp) _)⟩

theorem grown3 {w w1 : World} {o1 o2 o3 : Obj} (hb : Below (((w.alloc o1).alloc o2).alloc o3).heap.size (((w.alloc o1).alloc o2).alloc o3) w1) : Below w.heap.size w w1 ∧ w.heap.size < w1.heap.size ∧ w.heap.size + 1 < w1.heap.size ∧ w.heap.size + 1 + 1 < w1.heap.size := by
  have h1 := hb.size
  have h2 : (((w.alloc o1).alloc o2).alloc o3).heap.size = w.heap.size + 3 := by simp
  refine ⟨?_, by omega, by omega, by omega⟩
  have h3 : Below w.heap.size w (((w.alloc o1).alloc o2).alloc o3) := ((one w o1).alloc (by simp) _).alloc (by simp; omega) _
  exact h3.trans (hb.mono h3.size)
theorem then2 {w w1 w2 : World} (h : Below w.heap.size w w1) (hb : Below w1.heap.size w1 w2) : Below w.heap.size w w2 := h.trans (hb.mono h.size)

theorem arith_kind (a b n m : Int) (s t : ByteArray) (p : Option Addr) (w : World) (h : ¬ (a = 1 ∧ b = 1)) :
    Calls Tryz.prog 117 #[valV a n s, valV b m t, .pointer p] w fun e w' => e = .returned (outV 0 0 noS 1 kindS) ∧ Below w.heap.size w w' := by
  have H := Lib.hid h
  clear h
  go_enter Tryz.func117, Tryz.ntmps117
  go_wp2_with (first | (go_at_call 113; refine (both_no _ _ _ _ _ _ _ _ H.out).mono ?_; rintro e w1 ⟨rfl, hb⟩; obtain ⟨hg1, z0, z1, z2⟩ := grown3 hb; obtain ⟨hc, hf⟩ := bcell hb) | (go_at_call 78; refine (fault_any _ _).mono ?_; rintro e w2 ⟨rfl, hb2⟩; obtain ⟨hc2, hf2⟩ := bcell hb2))
  have hg := then2 hg1 hb2
  have hz := hb2.size
  have z3 : w.heap.size + 1 + 1 < w2.heap.size := by omega
  exact bodyPost_ret (v := outV 0 0 noS 1 kindS) (by simp [results, Tryz.results117, go_sem, hc, hc2, z2]) rfl ⟨rfl, by (repeat (first | with_reducible exact hg | with_reducible refine Below.setCell ?_ (by first | (simp; done) | (simp; omega)) _))⟩

theorem cell_of {w w1 : World} {b o : Nat} {v : Value} (h : Below w.heap.size w w1) (hc : w.cell? ⟨b, o, none⟩ = some v) : w1.cell? ⟨b, o, none⟩ = some v :=
  (h.cell (p := ⟨b, o, none⟩) (World.block_lt_of_cell? _ _ hc)).trans hc

set_option maxRecDepth 100000 in
theorem arith_ok87 (k n' : Int) (s' : ByteArray) (fk : Int) (ft : ByteArray) (x y : Int) (s t : ByteArray) (b : Nat) (w : World) (hc0 : w.cell? ⟨b, 0, none⟩ = some (.func (.func 87) #[] #[]))
    (H : Hid (∀ w1, Calls Tryz.prog 87 #[.int .i64 x, .int .i64 y] w1 fun e w' => e = .returned (outV k n' s' fk ft) ∧ Below w1.heap.size w1 w')) :
    Calls Tryz.prog 117 #[valV 1 x s, valV 1 y t, .pointer (some ⟨b, 0, none⟩)] w fun e w' => e = .returned (outV k n' s' fk ft) ∧ Below w.heap.size w w' := by
  go_enter Tryz.func117, Tryz.ntmps117
  go_wp2_with (first | (go_at_call 113; refine (both_yes _ _ _ _ _ _).mono ?_; rintro e w1 ⟨rfl, hb⟩; obtain ⟨hg1, z0, z1, z2⟩ := grown3 hb; obtain ⟨hc, hf⟩ := bcell hb; have hcb := cell_of hg1 hc0; clear hc0) | (go_at_call 87; refine (H.out _).mono ?_; rintro e w2 ⟨rfl, hb2⟩; obtain ⟨hc2, hf2⟩ := bcell hb2; clear hcb))
  have hg := then2 hg1 hb2
  have hz := hb2.size
  have z3 : w.heap.size + 1 + 1 < w2.heap.size := by omega
  exact bodyPost_ret (v := outV k n' s' fk ft) (by simp [results, Tryz.results117, go_sem, hc, hc2, z2]) rfl ⟨rfl, by (repeat (first | with_reducible exact hg | with_reducible refine Below.setCell ?_ (by first | (simp; done) | (simp; omega)) _))⟩

set_option maxRecDepth 100000 in
theorem arith_ok89 (k n' : Int) (s' : ByteArray) (fk : Int) (ft : ByteArray) (x y : Int) (s t : ByteArray) (b : Nat) (w : World) (hc0 : w.cell? ⟨b, 0, none⟩ = some (.func (.func 89) #[] #[]))
    (H : Hid (∀ w1, Calls Tryz.prog 89 #[.int .i64 x, .int .i64 y] w1 fun e w' => e = .returned (outV k n' s' fk ft) ∧ Below w1.heap.size w1 w')) :
    Calls Tryz.prog 117 #[valV 1 x s, valV 1 y t, .pointer (some ⟨b, 0, none⟩)] w fun e w' => e = .returned (outV k n' s' fk ft) ∧ Below w.heap.size w w' := by
  go_enter Tryz.func117, Tryz.ntmps117
  go_wp2_with (first | (go_at_call 113; refine (both_yes _ _ _ _ _ _).mono ?_; rintro e w1 ⟨rfl, hb⟩; obtain ⟨hg1, z0, z1, z2⟩ := grown3 hb; obtain ⟨hc, hf⟩ := bcell hb; have hcb := cell_of hg1 hc0; clear hc0) | (go_at_call 89; refine (H.out _).mono ?_; rintro e w2 ⟨rfl, hb2⟩; obtain ⟨hc2, hf2⟩ := bcell hb2; clear hcb))
  have hg := then2 hg1 hb2
  have hz := hb2.size
  have z3 : w.heap.size + 1 + 1 < w2.heap.size := by omega
  exact bodyPost_ret (v := outV k n' s' fk ft) (by simp [results, Tryz.results117, go_sem, hc, hc2, z2]) rfl ⟨rfl, by (repeat (first | with_reducible exact hg | with_reducible refine Below.setCell ?_ (by first | (simp; done) | (simp; omega)) _))⟩

set_option maxRecDepth 100000 in
theorem arith_ok116 (k n' : Int) (s' : ByteArray) (fk : Int) (ft : ByteArray) (x y : Int) (s t : ByteArray) (b : Nat) (w : World) (hc0 : w.cell? ⟨b, 0, none⟩ = some (.func (.func 116) #[] #[]))
    (H : Hid (∀ w1, Calls Tryz.prog 116 #[.int .i64 x, .int .i64 y] w1 fun e w' => e = .returned (outV k n' s' fk ft) ∧ Below w1.heap.size w1 w')) :
    Calls Tryz.prog 117 #[valV 1 x s, valV 1 y t, .pointer (some ⟨b, 0, none⟩)] w fun e w' => e = .returned (outV k n' s' fk ft) ∧ Below w.heap.size w w' := by
  go_enter Tryz.func117, Tryz.ntmps117
  go_wp2_with (first | (go_at_call 113; refine (both_yes _ _ _ _ _ _).mono ?_; rintro e w1 ⟨rfl, hb⟩; obtain ⟨hg1, z0, z1, z2⟩ := grown3 hb; obtain ⟨hc, hf⟩ := bcell hb; have hcb := cell_of hg1 hc0; clear hc0) | (go_at_call 116; refine (H.out _).mono ?_; rintro e w2 ⟨rfl, hb2⟩; obtain ⟨hc2, hf2⟩ := bcell hb2; clear hcb))
  have hg := then2 hg1 hb2
  have hz := hb2.size
  have z3 : w.heap.size + 1 + 1 < w2.heap.size := by omega
  exact bodyPost_ret (v := outV k n' s' fk ft) (by simp [results, Tryz.results117, go_sem, hc, hc2, z2]) rfl ⟨rfl, by (repeat (first | with_reducible exact hg | with_reducible refine Below.setCell ?_ (by first | (simp; done) | (simp; omega)) _))⟩

set_option maxRecDepth 100000 in
theorem arith_ok119 (q : Option Addr) (k n' : Int) (s' : ByteArray) (fk : Int) (ft : ByteArray) (x y : Int) (s t : ByteArray) (b : Nat) (w : World) (hc0 : w.cell? ⟨b, 0, none⟩ = some (.func (.func 119) #[] #[.pointer q]))
    (H : Hid (∀ w1, Below w.heap.size w w1 → Calls Tryz.prog 119 #[.int .i64 x, .int .i64 y, .pointer q] w1 fun e w' => e = .returned (outV k n' s' fk ft) ∧ Below w1.heap.size w1 w')) :
    Calls Tryz.prog 117 #[valV 1 x s, valV 1 y t, .pointer (some ⟨b, 0, none⟩)] w fun e w' => e = .returned (outV k n' s' fk ft) ∧ Below w.heap.size w w' := by
  go_enter Tryz.func117, Tryz.ntmps117
  go_wp2_with (first | (go_at_call 113; refine (both_yes _ _ _ _ _ _).mono ?_; rintro e w1 ⟨rfl, hb⟩; obtain ⟨hg1, z0, z1, z2⟩ := grown3 hb; obtain ⟨hc, hf⟩ := bcell hb; have hcb := cell_of hg1 hc0; clear hc0) | (go_at_call 119; refine (H.out _ hg1).mono ?_; rintro e w2 ⟨rfl, hb2⟩; obtain ⟨hc2, hf2⟩ := bcell hb2; clear hcb))
  have hg := then2 hg1 hb2
  have hz := hb2.size
  have z3 : w.heap.size + 1 + 1 < w2.heap.size := by omega
  exact bodyPost_ret (v := outV k n' s' fk ft) (by simp [results, Tryz.results117, go_sem, hc, hc2, z2]) rfl ⟨rfl, by (repeat (first | with_reducible exact hg | with_reducible refine Below.setCell ?_ (by first | (simp; done) | (simp; omega)) _))⟩

end Go.Proofs.YtjacdlglbjnoeaaGreatDoor
