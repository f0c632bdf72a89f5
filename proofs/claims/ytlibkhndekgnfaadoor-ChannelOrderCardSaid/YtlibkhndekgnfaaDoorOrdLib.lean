/- ChannelOrder: slices.IsSorted and slices.Equal over numbers. -/
import Derived.Test.YtlibkhndekgnfaaDoorOrdUser
namespace Go.Proofs.YtlibkhndekgnfaaDoor
open Go.RowKit

theorem nan_any (a : Int) (w : World) : Calls Tryd.prog 60 #[.int .i64 a] w fun e w' => e = .returned (.bool false) ∧ w = w' := by
  go_enter Tryd.func60, Tryd.ntmps60
  go_wp2
  refine bodyPost_ret (v := .bool false) (by simp [results, Tryd.results60, go_sem]) rfl ?_
  exact ⟨rfl, rfl⟩
theorem less_any (a b : Int) (w : World) : Calls Tryd.prog 48 #[.int .i64 a, .int .i64 b] w fun e w' => e = .returned (.bool (decide (a < b))) ∧ w = w' := by
  have N := Lib.hid (nan_any a)
  go_enter Tryd.func48, Tryd.ntmps48
  go_wp2_with fail
  refine (N.out _).mono ?_
  rintro e w1 ⟨rfl, rfl⟩
  go_wp2
  refine bodyPost_ret (v := .bool (decide (a < b))) (by simp [results, Tryd.results48, go_sem]) rfl ?_
  exact ⟨rfl, rfl⟩
theorem IsAt.cells {W : World} {base g n cap : Nat} {l : List Int} (h : IsAt W base (.slice (some ⟨g, 0, none⟩) n cap) l) {j : Nat} {x : Int} (hx : l[j]? = some x) : W.cell? ⟨g, j, none⟩ = some (.int .i64 x) := by
  have := RowAt.get h (fun _ => rfl) (i := 0) hx (by omega) rfl
  simpa using this

set_option maxRecDepth 100000 in
set_option maxHeartbeats 4000000 in
theorem sorted_any (base : Nat) (v : Value) (R : List Int) (w : World) (h : IsAt w base v R) (hR : R.Pairwise (· < ·)) (hl : R.length ≤ 1000) :
    Calls Tryd.prog 26 #[v] w fun e w' => e = .returned (.bool true) ∧ Below w.heap.size w w' := by
  have H := Lib.hid h
  have HR := Lib.hid hR
  obtain ⟨p1, c1, rfl, F1⟩ := h.form2
  have FF := Lib.hid F1
  clear h F1 hR
  go_enter Tryd.func26, Tryd.ntmps26
  go_wp2
  go_loopw [3] (fun vi wt => ∃ z : Int, -1 ≤ z ∧ z < R.length ∧ vi = .int .i64 z ∧ Below w.heap.size w wt) (fun vi _ => (intOf vi + 1).toNat)
  case atStart => exact ⟨(R.length : Int) - 1, by omega, by omega, by go_num, Below.refl _ _⟩
  case round =>
    obtain ⟨z, hz1, hz2, rfl, hB⟩ := hrel
    have HB := Lib.hid hB
    by_cases hz : 0 < z
    · obtain ⟨j, rfl⟩ : ∃ j : Nat, z = (j : Int) + 1 := ⟨(z - 1).toNat, by omega⟩
      obtain ⟨x, hx⟩ : ∃ x, R[j]? = some x := ⟨_, List.getElem?_eq_getElem (by omega)⟩
      obtain ⟨y, hy⟩ : ∃ y, R[j + 1]? = some y := ⟨_, List.getElem?_eq_getElem (by omega)⟩
      have hxy : x < y := by
        have h1 := (List.getElem?_eq_some_iff.1 hx)
        have h2 := (List.getElem?_eq_some_iff.1 hy)
        obtain ⟨i1, rfl⟩ := h1
        obtain ⟨i2, rfl⟩ := h2
        exact List.pairwise_iff_getElem.1 HR.out j (j + 1) i1 i2 (by omega)
      obtain ⟨g, e1, -, hg, hc, hm⟩ := FF.out (by omega)
      subst e1
      have q0 := IsAt.cells (H.out.below hB) hx
      have q1 := IsAt.cells (H.out.below hB) hy
      have hzs := hB.size
      have hg' : g < wr.heap.size := by omega
      have LL := Lib.hid (less_any y x)
      have hf : decide (y < x) = false := by simp; omega
      have hj0 : (0 : Int) ≤ (j : Int) := by omega
      clear hB hx hy
      rw [hf] at LL
      clear hf hxy
      have hj1 : (0 : Int) ≤ (j : Int) + 1 := by omega
      have hj2 : (j : Int) + 1 < (R.length : Int) := by omega
      have hj3 : (j : Int) < (R.length : Int) := by omega
      have hjt : ((j : Int) + 1).toNat = j + 1 := by omega
      have hjw : IntKind.i64.wrap ((j : Int) + 1 - 1) = (j : Int) := by rw [IntWalk.i64_in _ (by omega)]; omega
      have hjw2 : IntKind.i64.wrap (j : Int) = (j : Int) := IntWalk.i64_in _ (by omega)
      go_wp2_with fail
      go_region_held3 (fun w' => w'.cell? ⟨g, j, none⟩ = some (.int .i64 x) ∧ w'.cell? ⟨g, j + 1, none⟩ = some (.int .i64 y))
        (go_keep)
        (first | (go_at_call 48; refine (LL.out _).mono ?_; rintro e w7 ⟨rfl, rfl⟩))
      go_wp2
      go_roundw
      case rel => exact ⟨j, by omega, by omega, by go_num, by first | exact HB.out | exact HB.out.drew | exact below_drewN HB.out _⟩
      case measure => simp [intOf]; omega
    · clear hB
      go_wp2
      go_ret
      exact ⟨rfl, HB.out⟩

set_option maxRecDepth 100000 in
set_option maxHeartbeats 4000000 in
theorem equal_any (b1 b2 : Nat) (v1 v2 : Value) (n : Nat) (p1 p2 : Option Addr) (c1 c2 : Nat) (w : World) (Z : Nat → Int) (e1 : v1 = .slice p1 n c1) (e2 : v2 = .slice p2 n c2) (hl : n ≤ 1000) (hc1 : n ≤ c1) (hc2 : n ≤ c2) (hm1 : c1 ≤ maxLen) (hm2 : c2 ≤ maxLen)
    (h1 : 0 < n → p1 = some ⟨b1, 0, none⟩ ∧ b1 < w.heap.size ∧ ∀ j, j < n → w.cell? ⟨b1, j, none⟩ = some (.int .i64 (Z j)))
    (h2 : 0 < n → p2 = some ⟨b2, 0, none⟩ ∧ b2 < w.heap.size ∧ ∀ j, j < n → w.cell? ⟨b2, j, none⟩ = some (.int .i64 (Z j))) :
    Calls Tryd.prog 27 #[v1, v2] w fun e w' => e = .returned (.bool true) ∧ Below w.heap.size w w' := by
  subst e1 e2
  have H1 := Lib.hid h1
  have H2 := Lib.hid h2
  unfold maxLen at hm1 hm2
  clear h1 h2
  go_enter Tryd.func27, Tryd.ntmps27
  go_wp2
  go_loopw [13] (fun vi wt => ∃ i : Nat, i ≤ n ∧ vi = .int .i64 i ∧ Below w.heap.size w wt) (fun vi _ => n - (intOf vi).toNat)
  case atStart => exact ⟨0, Nat.zero_le _, rfl, Below.refl _ _⟩
  case round =>
    obtain ⟨i, hi, rfl, hB⟩ := hrel
    have HB := Lib.hid hB
    by_cases hlt : i < n
    · obtain ⟨rfl, hg1, k1⟩ := H1.out (by omega)
      obtain ⟨rfl, hg2, k2⟩ := H2.out (by omega)
      have q0 := (hB.cell (p := ⟨b1, i, none⟩) hg1).trans (k1 i hlt)
      have q1 := (hB.cell (p := ⟨b2, i, none⟩) hg2).trans (k2 i hlt)
      have hzs := hB.size
      have hg1' : b1 < wr.heap.size := by omega
      have hg2' : b2 < wr.heap.size := by omega
      have ii0 : (0 : Int) ≤ (i : Int) := by omega
      have ii1 : (i : Int) < (n : Int) := by omega
      clear hB k1 k2
      go_wp2
      go_quiet (fail)
      go_wp2
      go_roundw
      case rel => exact ⟨i + 1, by omega, by go_num, below_drewN HB.out _⟩
      case measure => simp [intOf]; omega
    · obtain rfl : i = n := by omega
      clear hB
      go_wp2
      go_ret
      exact ⟨rfl, HB.out⟩
end Go.Proofs.YtlibkhndekgnfaaDoor
