/- The function Binary: where it returns an error. -/
import Derived.Test.YtjacdlglbjnoeaaGreatDoorBinDiv
namespace Go.Proofs.YtjacdlglbjnoeaaGreatDoor
open Go.RowKit
open Go.Maps (Keyed)

def allHeld (l : List (Lit × DataW Value)) : Prop := ∀ p ∈ l, ∃ v, p.2 = .held v
theorem atKey_held {l : List (Lit × DataW Value)} (h : allHeld l) (k : Lit) (z : Value) : ∃ v, (DataW.map l).atKey k (.held z) = .held v := by
  unfold DataW.atKey
  cases hf : l.find? (fun p => p.1.sameKey k) with
  | none => exact ⟨z, by simp [hf]⟩
  | some p =>
    obtain ⟨v, hv⟩ := h p (List.mem_of_find?_eq_some hf)
    exact ⟨v, by simp [hf, hv]⟩

theorem Inv.held {w0 w : World} {bm n : Nat} {L : List (Nat × Value)} {a0 a1 a2 a3 a4 a5 a6 a7 a8 a9 a10 a11 a12 : Lit} {v0 v1 v2 v3 v4 v5 v6 v7 v8 v9 v10 v11 v12 : Value} (_ : Inv w0 w bm n (.map [(a0, .held v0), (a1, .held v1), (a2, .held v2), (a3, .held v3), (a4, .held v4), (a5, .held v5), (a6, .held v6), (a7, .held v7), (a8, .held v8), (a9, .held v9), (a10, .held v10), (a11, .held v11), (a12, .held v12)]) L) (k : Lit) (z : Value) : ∃ v c, (DataW.map [(a0, .held v0), (a1, .held v1), (a2, .held v2), (a3, .held v3), (a4, .held v4), (a5, .held v5), (a6, .held v6), (a7, .held v7), (a8, .held v8), (a9, .held v9), (a10, .held v10), (a11, .held v11), (a12, .held v12)]).atKey k (.held z) = .held v ∧ Maps.has (DataW.map [(a0, .held v0), (a1, .held v1), (a2, .held v2), (a3, .held v3), (a4, .held v4), (a5, .held v5), (a6, .held v6), (a7, .held v7), (a8, .held v8), (a9, .held v9), (a10, .held v10), (a11, .held v11), (a12, .held v12)]) k = c := by
  suffices h : ∃ v, (DataW.map [(a0, .held v0), (a1, .held v1), (a2, .held v2), (a3, .held v3), (a4, .held v4), (a5, .held v5), (a6, .held v6), (a7, .held v7), (a8, .held v8), (a9, .held v9), (a10, .held v10), (a11, .held v11), (a12, .held v12)]).atKey k (.held z) = .held v from by
    obtain ⟨v, hv⟩ := h
    exact ⟨v, _, hv, rfl⟩
  refine atKey_held (fun p hp => ?_) k z
  simp only [List.mem_cons, List.not_mem_nil, or_false] at hp
  rcases hp with rfl | rfl | rfl | rfl | rfl | rfl | rfl | rfl | rfl | rfl | rfl | rfl | rfl <;> exact ⟨_, rfl⟩

set_option maxRecDepth 100000 in
set_option maxHeartbeats 1600000 in
theorem binary_none (op k1 n1 : Int) (s1 : ByteArray) (k2 n2 : Int) (s2 : ByteArray) (w : World) (hwf : (Lit.int .i64 op).wf = true) (hop : op < 7 ∨ 19 < op) :
    Calls Tryz.prog 21 #[.int .i64 op, valV k1 n1 s1, valV k2 n2 s2] w fun e w' => e = .returned (binR 0 0 noS 0 noS 2) ∧ Below w.heap.size w w' := by
  have HOP := Lib.hid hop
  have HWF := Lib.hid hwf
  clear hop hwf
  go_enter Tryz.func21, Tryz.ntmps21
  go_wp2_with fail
  refine (binaries_any _).mono ?_
  rintro e w1 ⟨bm, rfl, b7, b8, b9, b10, b11, b12, b13, b14, b16, b17, c18, b18, c19, b19, H⟩
  obtain ⟨hg1, z0, z1, z2, z3⟩ := grown4 H.below
  obtain ⟨hc, hf⟩ := bcell H.below
  obtain ⟨v, _, hv, _⟩ := H.held (.int .i64 op) .nilFunc
  have HV := Lib.hid hv
  clear hv
  go_wp2_with (first | (at_lookup; refine wpList_lookup_held _ rfl _ _ 79 rfl 3 89 key3 Tryz.underlying79 (Tryz.zeroValue89 _) bm 13 _ rfl H.owns _ _ rfl (keyI op HWF.out) v false HV.out (by have := HOP.out; simp [Maps.has, Lit.sameKey]; omega) ?_) | fail)
  exact bodyPost_ret (v := binR 0 0 noS 0 noS 2) (by simp [results, Tryz.results21, go_sem, hc]) rfl ⟨rfl, by (repeat (first | with_reducible exact hg1 | with_reducible refine Below.setCell ?_ (by first | (simp; done) | (simp; omega)) _))⟩

set_option maxRecDepth 100000 in
set_option maxHeartbeats 1600000 in
theorem binary_left (op k1 n1 : Int) (s1 : ByteArray) (k2 n2 : Int) (s2 : ByteArray) (w : World) (hwf : (Lit.int .i64 op).wf = true) (h1 : validB k1 n1 s1 = false) (hs : s1.size ≤ 9223372036854775807) :
    Calls Tryz.prog 21 #[.int .i64 op, valV k1 n1 s1, valV k2 n2 s2] w fun e w' => e = .returned (binR 0 0 noS 0 noS 2) ∧ Below w.heap.size w w' := by
  have V1 := fun w => wrong_any k1 n1 s1 w hs
  rw [h1] at V1
  have W1 := Lib.hid V1
  have HWF := Lib.hid hwf
  clear V1 h1 hwf
  go_enter Tryz.func21, Tryz.ntmps21
  go_wp2_with fail
  refine (binaries_any _).mono ?_
  rintro e w1 ⟨bm, rfl, b7, b8, b9, b10, b11, b12, b13, b14, b16, b17, c18, b18, c19, b19, H⟩
  obtain ⟨hg1, z0, z1, z2, z3⟩ := grown4 H.below
  obtain ⟨hc, hf⟩ := bcell H.below
  obtain ⟨v, c, hv, hcc⟩ := H.held (.int .i64 op) .nilFunc
  have HV := Lib.hid hv
  have HH := Lib.hid hcc
  clear hv hcc
  cases c
  · go_wp2_with (first | (at_lookup; refine wpList_lookup_held _ rfl _ _ 79 rfl 3 89 key3 Tryz.underlying79 (Tryz.zeroValue89 _) bm 13 _ rfl H.owns _ _ rfl (keyI op HWF.out) v false HV.out HH.out ?_) | fail)
    exact bodyPost_ret (v := binR 0 0 noS 0 noS 2) (by simp [results, Tryz.results21, go_sem, hc]) rfl ⟨rfl, by (repeat (first | with_reducible exact hg1 | with_reducible refine Below.setCell ?_ (by first | (simp; done) | (simp; omega)) _))⟩
  · go_wp2_with (first | (at_lookup; refine wpList_lookup_held _ rfl _ _ 79 rfl 3 89 key3 Tryz.underlying79 (Tryz.zeroValue89 _) bm 13 _ rfl H.owns _ _ rfl (keyI op HWF.out) v true HV.out HH.out ?_) | fail)
    refine (W1.out _).mono ?_
    rintro e w2 ⟨rfl, hb2⟩
    have hg2 := then2 hg1 hb2
    have hz2 := hb2.size
    obtain ⟨hc2, hf2⟩ := bcell hb2
    have x0 : w.heap.size < w2.heap.size := by omega
    have x1 : w.heap.size + 1 < w2.heap.size := by omega
    have x2 : w.heap.size + 1 + 1 < w2.heap.size := by omega
    have x3 : w.heap.size + 1 + 1 + 1 < w2.heap.size := by omega
    clear hz2
    go_wp2_with fail
    exact bodyPost_ret (v := binR 0 0 noS 0 noS 2) (by simp [results, Tryz.results21, go_sem, hc, hc2, z2, z3]) rfl ⟨rfl, by (repeat (first | with_reducible exact hg2 | with_reducible refine Below.setCell ?_ (by first | (simp; done) | (simp; omega)) _))⟩

set_option maxRecDepth 100000 in
set_option maxHeartbeats 1600000 in
theorem binary_right (op k1 n1 : Int) (s1 : ByteArray) (k2 n2 : Int) (s2 : ByteArray) (w : World) (hwf : (Lit.int .i64 op).wf = true) (h1 : validB k1 n1 s1 = true) (h2 : validB k2 n2 s2 = false) (hs : s1.size ≤ 9223372036854775807) (ht : s2.size ≤ 9223372036854775807) :
    Calls Tryz.prog 21 #[.int .i64 op, valV k1 n1 s1, valV k2 n2 s2] w fun e w' => e = .returned (binR 0 0 noS 0 noS 2) ∧ Below w.heap.size w w' := by
  have V1 := fun w => wrong_any k1 n1 s1 w hs
  rw [h1] at V1
  have W1 := Lib.hid V1
  have V2 := fun w => wrong_any k2 n2 s2 w ht
  rw [h2] at V2
  have W2 := Lib.hid V2
  have HWF := Lib.hid hwf
  clear V1 h1 hwf V2 h2
  go_enter Tryz.func21, Tryz.ntmps21
  go_wp2_with fail
  refine (binaries_any _).mono ?_
  rintro e w1 ⟨bm, rfl, b7, b8, b9, b10, b11, b12, b13, b14, b16, b17, c18, b18, c19, b19, H⟩
  obtain ⟨hg1, z0, z1, z2, z3⟩ := grown4 H.below
  obtain ⟨hc, hf⟩ := bcell H.below
  obtain ⟨v, c, hv, hcc⟩ := H.held (.int .i64 op) .nilFunc
  have HV := Lib.hid hv
  have HH := Lib.hid hcc
  clear hv hcc
  cases c
  · go_wp2_with (first | (at_lookup; refine wpList_lookup_held _ rfl _ _ 79 rfl 3 89 key3 Tryz.underlying79 (Tryz.zeroValue89 _) bm 13 _ rfl H.owns _ _ rfl (keyI op HWF.out) v false HV.out HH.out ?_) | fail)
    exact bodyPost_ret (v := binR 0 0 noS 0 noS 2) (by simp [results, Tryz.results21, go_sem, hc]) rfl ⟨rfl, by (repeat (first | with_reducible exact hg1 | with_reducible refine Below.setCell ?_ (by first | (simp; done) | (simp; omega)) _))⟩
  · go_wp2_with (first | (at_lookup; refine wpList_lookup_held _ rfl _ _ 79 rfl 3 89 key3 Tryz.underlying79 (Tryz.zeroValue89 _) bm 13 _ rfl H.owns _ _ rfl (keyI op HWF.out) v true HV.out HH.out ?_) | fail)
    refine (W1.out _).mono ?_
    rintro e w2 ⟨rfl, hb2⟩
    have hg2 := then2 hg1 hb2
    have hz2 := hb2.size
    obtain ⟨hc2, hf2⟩ := bcell hb2
    have x0 : w.heap.size < w2.heap.size := by omega
    have x1 : w.heap.size + 1 < w2.heap.size := by omega
    have x2 : w.heap.size + 1 + 1 < w2.heap.size := by omega
    have x3 : w.heap.size + 1 + 1 + 1 < w2.heap.size := by omega
    clear hz2
    go_wp2_with fail
    refine (W2.out _).mono ?_
    rintro e w3 ⟨rfl, hb3⟩
    have hg3 := then2 hg2 hb3
    have hz3 := hb3.size
    obtain ⟨hc3, hf3⟩ := bcell hb3
    have y0 : w.heap.size < w3.heap.size := by omega
    have y1 : w.heap.size + 1 < w3.heap.size := by omega
    have y2 : w.heap.size + 1 + 1 < w3.heap.size := by omega
    have y3 : w.heap.size + 1 + 1 + 1 < w3.heap.size := by omega
    clear hz3
    go_wp2_with fail
    exact bodyPost_ret (v := binR 0 0 noS 0 noS 2) (by simp [results, Tryz.results21, go_sem, hc, hc2, hc3, z2, z3, x2, x3]) rfl ⟨rfl, by (repeat (first | with_reducible exact hg3 | with_reducible refine Below.setCell ?_ (by first | (simp; done) | (simp; omega)) _))⟩
end Go.Proofs.YtjacdlglbjnoeaaGreatDoor
