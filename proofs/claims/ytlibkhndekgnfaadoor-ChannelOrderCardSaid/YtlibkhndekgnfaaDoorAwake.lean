/- The function awake of the statements returns true. -/
import Derived.Test.YtlibkhndekgnfaaDoorSame
namespace Go.Proofs.YtlibkhndekgnfaaDoor
open Go.RowKit

theorem same_nil (w : World) : Calls Tryd.prog 13 #[stateV 0 0 false (.slice none 0 0) (.slice none 0 0) 0, stateV 0 0 false (.slice none 0 0) (.slice none 0 0) 0] w fun e w' => e = .returned (.bool true) ∧ Below w.heap.size w w' :=
  same_any 0 0 0 false _ _ _ _ 0 0 0 0 [] [] w (by simp) (by simp) (RowAt.nil _ _ _ _ _) (RowAt.nil _ _ _ _ _) (RowAt.nil _ _ _ _ _) (RowAt.nil _ _ _ _ _)

theorem new_one (w : World) : Calls Tryd.prog 10 #[.int .i64 1, .int .i64 0] w (newPost w (newSt 1 0)) := new_ok 1 0 w (by omega) (by omega) (by omega)

def offer7Post (w : World) (b : Nat) (e : Ending) (w' : World) : Prop :=
  e = .returned (.tuple #[.slice none 0 0, faultV false, .bool true]) ∧ Rep w' b [] { newSt 1 0 with buf := [⟨1, 7, noS⟩] } ∧ Below b w w'
theorem offer_seven (w : World) (b : Nat) (h : Rep w b [] (newSt 1 0)) (henv : Env w) : Calls Tryd.prog 16 #[.pointer (some ⟨b, 0, none⟩), valV 1 7 noS] w (offer7Post w b) := by
  refine (offer_any b [] (newSt 1 0) 1 7 noS w h henv (by decide +kernel) (by decide) (by decide)).mono ?_
  rintro e w' ⟨ns', dv, hs, rfl, hd, hR, hF⟩
  have e1 : Cn.offer (newSt 1 0) ⟨1, 7, noS⟩ = ({ newSt 1 0 with buf := [⟨1, 7, noS⟩] }, [], false, true) := rfl
  rw [e1] at hd hR ⊢
  obtain rfl := hd.2.2 rfl
  obtain rfl : ns' = [] := List.eq_nil_iff_forall_not_mem.2 fun x hx => by simpa using hs x hx
  exact ⟨rfl, hR, hF.below (by simp) (Nat.le_of_lt (h.lt b (by simp)))⟩
def take7Post (w : World) (b : Nat) (ns : List Nat) (e : Ending) (w' : World) : Prop :=
  e = .returned (.tuple #[valV 1 7 noS, .slice none 0 0, faultV false, .bool true]) ∧ Fr (b :: ns) w w'
theorem take_seven (w : World) (b : Nat) (ns : List Nat) (h : Rep w b ns { newSt 1 0 with buf := [⟨1, 7, noS⟩] }) (henv : Env w) (hb : ∀ x ∈ b :: ns, 0 < x) : Calls Tryd.prog 17 #[.pointer (some ⟨b, 0, none⟩)] w (take7Post w b ns) := by
  refine (take_any b ns _ w h henv hb).mono ?_
  rintro e w' ⟨ns', dv, hs, rfl, hd, hR, hF⟩
  have e1 : Cn.take { newSt 1 0 with buf := [⟨1, 7, noS⟩] } = ({ newSt 1 0 with buf := [] }, ⟨1, 7, noS⟩, [], false, true) := rfl
  rw [e1] at hd ⊢
  obtain rfl := hd.2.2 rfl
  exact ⟨rfl, hF⟩

set_option maxRecDepth 100000 in
set_option maxHeartbeats 4000000 in
theorem awake_any (w : World) (henv : Env w) : Calls Tryd.prog 12 #[] w fun e w' => e = .returned (.bool true) ∧ Below w.heap.size w w' := by
  have HE := Lib.hid henv
  have hpos := henv.pos
  clear henv
  go_enter Tryd.func12, Tryd.ntmps12
  go_wp2_with fail
  refine (new_one w).mono ?_
  rintro e w1 ⟨rfl, hR1, hB1⟩
  have HR1 := Lib.hid hR1
  have HB1 := Lib.hid hB1
  have hz1 : w.heap.size < w1.heap.size := hR1.lt _ (by simp)
  clear hR1 hB1
  go_wp2_with fail
  refine (number_any 7 _).mono ?_
  rintro e w2 ⟨rfl, hB2⟩
  have HR2 := Lib.hid (HR1.out.below hB2)
  have hz2 := hB2.size
  have HB2 := Lib.hid (HB1.out.trans (hB2.mono (by omega)))
  clear hB2
  go_wp2_with fail
  refine (offer_seven w2 w.heap.size HR2.out (HE.out.below HB2.out)).mono ?_
  rintro e w3 ⟨rfl, hR3, hB3⟩
  have hz3 := hB3.size
  have HR3 := Lib.hid (hR3.alloc (.cells #[.int .i64 0, .string noS] 45))
  have hz5 : w.heap.size < w3.heap.size := hR3.lt _ (by simp)
  have HB3 := Lib.hid ((HB2.out.trans hB3).alloc (by omega) (.cells #[.int .i64 0, .string noS] 45))
  have HF3 := Lib.hid (Blk.new w3 #[.int .i64 0, .string noS] 45)
  clear hR3 hB3
  go_wp2_with fail
  refine (take_seven _ w.heap.size [] HR3.out (HE.out.below HB3.out) (by simpa using hpos)).mono ?_
  rintro e w4 ⟨rfl, hF4⟩
  have hn : w3.heap.size ∉ w.heap.size :: [] := by simp; omega
  have bF := HF3.out.fr hF4 hn
  have f0 : w4.cell? ⟨w3.heap.size, 0, none⟩ = some (.int .i64 0) := bF.cell 0 (by decide)
  have hz4 := bF.lt
  have HB4 : Hid (Below w.heap.size w w4) := Lib.hid (HB3.out.trans (hF4.below (by simp) (by simp; omega)))
  clear hF4 bF
  go_wp2_with fail
  have HW : Hid (((w4.alloc (.cells #[.int .i64 1, .int .i64 7, .string noS] 37)).alloc (.cells #[.int .i64 0, .string noS] 45)).cell? ⟨w3.heap.size, 0, none⟩ = some (.int .i64 0) ∧ ((w4.alloc (.cells #[.int .i64 1, .int .i64 7, .string noS] 37)).alloc (.cells #[.int .i64 0, .string noS] 45)).cell? ⟨w4.heap.size, 0, none⟩ = some (.int .i64 1) ∧ ((w4.alloc (.cells #[.int .i64 1, .int .i64 7, .string noS] 37)).alloc (.cells #[.int .i64 0, .string noS] 45)).cell? ⟨w4.heap.size, 1, none⟩ = some (.int .i64 7) ∧ ((w4.alloc (.cells #[.int .i64 1, .int .i64 7, .string noS] 37)).alloc (.cells #[.int .i64 0, .string noS] 45)).cell? ⟨w4.heap.size, 2, none⟩ = some (.string noS) ∧ ((w4.alloc (.cells #[.int .i64 1, .int .i64 7, .string noS] 37)).alloc (.cells #[.int .i64 0, .string noS] 45)).cell? ⟨w4.heap.size + 1, 0, none⟩ = some (.int .i64 0)) := by
    refine ⟨?_, ?_, ?_, ?_, ?_⟩
    · rw [World.cell?_alloc_past _ _ _ (by simp; omega), World.cell?_alloc_past _ _ _ hz4]; exact f0
    · rw [World.cell?_alloc_past _ _ _ (by simp)]; exact World.cell?_alloc_at _ _ _ _ rfl
    · rw [World.cell?_alloc_past _ _ _ (by simp)]; exact World.cell?_alloc_at _ _ _ _ rfl
    · rw [World.cell?_alloc_past _ _ _ (by simp)]; exact World.cell?_alloc_at _ _ _ _ rfl
    · exact World.cell?_alloc_at _ _ _ _ (by simp)
  go_region_held3 (fun w' => w'.cell? ⟨w3.heap.size, 0, none⟩ = some (.int .i64 0) ∧ w'.cell? ⟨w4.heap.size, 0, none⟩ = some (.int .i64 1) ∧ w'.cell? ⟨w4.heap.size, 1, none⟩ = some (.int .i64 7) ∧ w'.cell? ⟨w4.heap.size, 2, none⟩ = some (.string noS) ∧ w'.cell? ⟨w4.heap.size + 1, 0, none⟩ = some (.int .i64 0)) (first | go_keep | exact ⟨cell_of hB5 HW.out.1, cell_of hB5 HW.out.2.1, cell_of hB5 HW.out.2.2.1, cell_of hB5 HW.out.2.2.2.1, cell_of hB5 HW.out.2.2.2.2⟩) ((go_at_call 24; refine (number_any 7 _).mono ?_; rintro e w5 ⟨rfl, hB5⟩))
  all_goals have HB5 : Hid (Below w.heap.size w w5) := Lib.hid (((below_drewN ((HB4.out.alloc (by omega) _).alloc (by simp; omega) _) _)).trans (hB5.mono (by simp; omega)))
  all_goals clear hB5
  all_goals go_wp2
  all_goals go_ret
  all_goals exact ⟨rfl, HB5.out⟩
end Go.Proofs.YtlibkhndekgnfaaDoor
