/- The operator add, of numbers and of texts. -/
import Derived.Test.YtjacdlglbjnoeaaGreatDoorBoth
import Derived.Deep.RegionWith
namespace Go.Proofs.YtjacdlglbjnoeaaGreatDoor
open Go.RowKit

theorem text_any (s : ByteArray) (w : World) : Calls Tryz.prog 96 #[.string s] w fun e w' => e = .returned (valV 3 0 s) ∧ Below w.heap.size w w' := by
  go_enter Tryz.func96, Tryz.ntmps96
  go_wp2
  exact bodyPost_ret (v := valV 3 0 s) (by simp [results, Tryz.results96, go_sem]) rfl ⟨rfl, one _ _⟩

theorem arithmetic_exact (f : Nat) (w : World) : Calls Tryz.prog 86 #[.func (.func f) #[] #[]] w fun e w' => e = .returned (.func (.func 117) #[] #[.pointer (some ⟨w.heap.size, 0, none⟩)]) ∧ w' = w.alloc (.cells #[.func (.func f) #[] #[]] 130) := by
  go_enter Tryz.func86, Tryz.ntmps86
  go_wp2
  go_ret
  exact ⟨rfl, rfl⟩

set_option maxRecDepth 100000 in
set_option maxHeartbeats 1000000 in
theorem add_long (n m : Int) (s t : ByteArray) (w : World) (hs : s.size ≤ 60) (ht : t.size ≤ 60) (h : 60 < s.size + t.size) :
    Calls Tryz.prog 85 #[valV 3 n s, valV 3 m t] w fun e w' => e = .returned (outV 0 0 noS 1 longS) ∧ Below w.heap.size w w' := by
  go_enter Tryz.func85, Tryz.ntmps85
  go_wp2_with fail
  refine (both_yes _ _ _ _ _ _).mono ?_
  rintro e w1 ⟨rfl, hb⟩
  obtain ⟨hg1, z0, z1, z2⟩ := grown3 hb
  obtain ⟨hc, hf⟩ := bcell hb
  go_wp2_with fail
  refine (fault_any _ _).mono ?_
  rintro e w2 ⟨rfl, hb2⟩
  have hg2 := then2 hg1 hb2
  have hz2 := hb2.size
  obtain ⟨hc2, hf2⟩ := bcell hb2
  have y2 : w.heap.size + 1 + 1 < w2.heap.size := by omega
  clear hz2
  go_wp2
  exact bodyPost_ret (v := outV 0 0 noS 1 longS) (by simp [results, Tryz.results85, go_sem, hc, hc2, z2]) rfl ⟨rfl, by (repeat (first | with_reducible exact hg2 | with_reducible refine Below.setCell ?_ (by first | (simp; done) | (simp; omega)) _))⟩

set_option maxRecDepth 100000 in
set_option maxHeartbeats 1000000 in
theorem add_text (n m : Int) (s t : ByteArray) (w : World) (hs : s.size ≤ 60) (ht : t.size ≤ 60) (h : ¬ 60 < s.size + t.size) :
    Calls Tryz.prog 85 #[valV 3 n s, valV 3 m t] w fun e w' => e = .returned (outV 3 0 (s ++ t) 0 noS) ∧ Below w.heap.size w w' := by
  go_enter Tryz.func85, Tryz.ntmps85
  go_wp2_with fail
  refine (both_yes _ _ _ _ _ _).mono ?_
  rintro e w1 ⟨rfl, hb⟩
  obtain ⟨hg1, z0, z1, z2⟩ := grown3 hb
  obtain ⟨hc, hf⟩ := bcell hb
  go_wp2_with fail
  refine (text_any _ _).mono ?_
  rintro e w2 ⟨rfl, hb2⟩
  have hg2 := then2 hg1 hb2
  have hz2 := hb2.size
  obtain ⟨hc2, hf2⟩ := bcell hb2
  have y2 : w.heap.size + 1 + 1 < w2.heap.size := by omega
  clear hz2
  go_wp2
  exact bodyPost_ret (v := outV 3 0 (s ++ t) 0 noS) (by simp [results, Tryz.results85, go_sem, hc, hc2, z2]) rfl ⟨rfl, by (repeat (first | with_reducible exact hg2 | with_reducible refine Below.setCell ?_ (by first | (simp; done) | (simp; omega)) _))⟩

theorem undrewA {w w1 : World} {o : Obj} (h : Below (w.drew.alloc o).heap.size (w.drew.alloc o) w1) : Below w.heap.size w w1 :=
  ((Below.drew (Below.refl _ w)).alloc (Nat.le_refl _) o).trans (h.mono (by simp))

/-- What the closure of the sum returns. -/
def SumPost (k n : Int) (s : ByteArray) (k' m : Int) (t : ByteArray) (rk rn : Int) (rs : ByteArray) (fk : Int) (ft : ByteArray) : Prop :=
  ∀ (b : Nat) (w : World), w.cell? ⟨b, 0, none⟩ = some (.func (.func 116) #[] #[]) → Calls Tryz.prog 117 #[valV k n s, valV k' m t, .pointer (some ⟨b, 0, none⟩)] w fun e w' => e = .returned (outV rk rn rs fk ft) ∧ Below w.heap.size w w'

set_option maxRecDepth 100000 in
set_option maxHeartbeats 1000000 in
theorem add_sum (k n : Int) (s : ByteArray) (k' m : Int) (t : ByteArray) (rk rn : Int) (rs : ByteArray) (fk : Int) (ft : ByteArray) (w : World) (h3 : ¬ (k = 3 ∧ k' = 3)) (hS : SumPost k n s k' m t rk rn rs fk ft) :
    Calls Tryz.prog 85 #[valV k n s, valV k' m t] w fun e w' => e = .returned (outV rk rn rs fk ft) ∧ Below w.heap.size w w' := by
  have H3 := Lib.hid h3
  have HS := Lib.hid hS
  clear h3 hS
  go_enter Tryz.func85, Tryz.ntmps85
  go_wp2_with fail
  refine (both_no _ _ _ _ _ _ _ _ H3.out).mono ?_
  rintro e w1 ⟨rfl, hb⟩
  obtain ⟨hg1, z0, z1, z2⟩ := grown3 hb
  obtain ⟨hc, hf⟩ := bcell hb
  go_wp2_with fail
  go_region_with (first
    | (go_at_call 86; refine (arithmetic_exact _ _).mono ?_; rintro e w2 ⟨rfl, rfl⟩)
    | (go_at_call 117; refine (HS.out _ _ (by simp [go_sem])).mono ?_; rintro e w3 ⟨rfl, hb3⟩; have HB := Lib.hid (undrewA hb3); obtain ⟨hc3, hf3⟩ := bcell hb3; have hz3 := HB.out.size; have y2 : w.heap.size + 1 + 1 < w3.heap.size := Nat.lt_of_lt_of_le z2 hz3; clear hz3))
  all_goals go_wp2
  all_goals
    have hcA := (bcell HB.out).1
    have hg3 := then2 hg1 HB.out
    exact bodyPost_ret (v := outV rk rn rs fk ft) (by simp [results, Tryz.results85, go_sem, hcA, hc, z2]) rfl ⟨rfl, by (repeat (first | with_reducible exact hg3 | with_reducible refine Below.setCell ?_ (by first | (simp; done) | (simp; omega)) _))⟩
end Go.Proofs.YtjacdlglbjnoeaaGreatDoor
