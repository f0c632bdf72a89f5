/- slices.IsSorted over an ascending list. -/
import Derived.Test.YtpkldcnkadfhgaaKnot3
namespace Go.Proofs.Ytpkldcnkadfhgaa
open Go.RowKit

set_option maxRecDepth 100000 in
theorem isNaN_any (x : Int) (w : World) : Calls Try.prog 70 #[.int .i64 x] w (still w (.bool false)) := by
  unfold still
  go_enter Try.func70, Try.ntmps70
  go_wp2
  go_ret
  exact ⟨rfl, Below.refl _ _⟩
set_option maxRecDepth 100000 in
theorem less_any (x y : Int) (h : y < x) (w : World) : Calls Try.prog 52 #[.int .i64 x, .int .i64 y] w (still w (.bool false)) := by
  have N1 := Lib.hid (isNaN_any x)
  unfold still at *
  have hlt : ¬ x < y := by omega
  go_enter Try.func52, Try.ntmps52
  go_wp2_with fail
  refine (N1.out _).mono ?_
  rintro e w2 ⟨rfl, hb⟩
  go_wp2
  go_ret
  exact ⟨by simp [hlt], hb⟩

set_option maxRecDepth 100000 in
set_option maxHeartbeats 4000000 in
theorem isSorted_any (v : Value) (L : List Int) (w : World) (h : Line w v L) (hs : L.Pairwise (· < ·)) (hl : L.length ≤ 1000000) : Calls Try.prog 27 #[v] w (still w (.bool true)) := by
  unfold still
  obtain ⟨p, cap, rfl, -, -, hp⟩ := h.form
  have HP := Lib.hid hp
  have HLN := Lib.hid h
  have HS := Lib.hid hs
  obtain ⟨n, hn⟩ : ∃ n, n = L.length := ⟨_, rfl⟩
  rw [← hn] at HLN HP hl ⊢
  have HN := Lib.hid hn
  have e0 : IntKind.i64.wrap ((n : Int) - 1) = (n : Int) - 1 := IntWalk.i64_in _ (by omega)
  clear h hs hp hn
  go_enter Try.func27, Try.ntmps27
  go_wp2_with fail
  go_loopw [3] (fun vi wt => ∃ k : Nat, k ≤ n ∧ vi = .int .i64 ((k : Int) - 1) ∧ Below w.heap.size w wt) (fun vi _ => (intOf vi + 1).toNat)
  case atStart => exact ⟨n, Nat.le_refl _, by go_num, Below.refl _ _⟩
  case round =>
    obtain ⟨k, hk, rfl, hB⟩ := hrel
    have HB := Lib.hid hB
    have hsz := hB.size
    clear hB
    by_cases h2 : 2 ≤ k
    · obtain ⟨j, rfl⟩ : ∃ j, k = j + 2 := ⟨k - 2, by omega⟩
      obtain ⟨g, off, rfl, hg⟩ := HP.out (by omega)
      obtain ⟨x, hx⟩ : ∃ x, L[j + 1]? = some x := ⟨_, List.getElem?_eq_getElem (by have := HN.out; omega)⟩
      obtain ⟨y, hy⟩ : ∃ y, L[j]? = some y := ⟨_, List.getElem?_eq_getElem (by have := HN.out; omega)⟩
      have hyx : y < x := by
        obtain ⟨h1, e1⟩ := List.getElem?_eq_some_iff.1 hx
        obtain ⟨h2, e2⟩ := List.getElem?_eq_some_iff.1 hy
        rw [← e1, ← e2]
        exact List.pairwise_iff_getElem.1 HS.out j (j + 1) h2 h1 (by omega)
      have LS := Lib.hid (less_any x y hyx)
      unfold still at LS
      have c0 := cell_of HB.out (HLN.out.cell hx)
      have c1 := cell_of HB.out (HLN.out.cell hy)
      have hg2 : g < wr.heap.size := by omega
      have ek : (((j + 2 : Nat) : Int) - 1) = (j : Int) + 1 := by omega
      have ek2 : IntKind.i64.wrap ((j : Int) + 1 - 1) = (j : Int) := by rw [IntWalk.i64_in _ (by omega)]; omega
      have ek3 : (j : Int) + 1 - 1 = (j : Int) := by omega
      have i1 : (0 : Int) ≤ (j : Int) + 1 := by omega
      have i2 : (j : Int) + 1 < (n : Int) := by omega
      have i3 : ((j : Int) + 1).toNat = j + 1 := by omega
      have i4 : (0 : Int) ≤ (j : Int) := by omega
      have i5 : (j : Int) < (n : Int) := by omega
      have ek5 : IntKind.i64.wrap (j : Int) = (j : Int) := IntWalk.i64_in _ (by omega)
      have ek6 : ((j : Int)).toNat = j := by omega
      have i7 : (0 : Int) < (j : Int) + 1 := by omega
      rw [ek]
      have KS : Hid (∀ W', Below wr.heap.size wr W' → W'.cell? ⟨g, off + (j + 1), none⟩ = some (.int .i64 x) ∧ W'.cell? ⟨g, off + j, none⟩ = some (.int .i64 y)) := Lib.hid fun W' hW => ⟨cell_of hW c0, cell_of hW c1⟩
      have BX : Hid (Below wr.heap.size wr wr.drew) := Lib.hid (below_drewN (Below.refl _ wr) 1)
      clear hx hy
      go_wp2_with fail
      go_region_held3 (fun W' => W'.cell? ⟨g, off + (j + 1), none⟩ = some (.int .i64 x) ∧ W'.cell? ⟨g, off + j, none⟩ = some (.int .i64 y))
        (first | exact KS.out _ BX.out | exact KS.out _ HB2.out | go_keep)
        (first | (go_at_call 52; refine (LS.out _).mono ?_; rintro e w2 ⟨rfl, hb2⟩; have HB2 := Lib.hid (BX.out.trans (hb2.mono BX.out.size)); clear hb2))
      all_goals go_wp2
      all_goals go_roundw
      case rel => exact ⟨j + 1, by omega, by go_num, HB.out.trans (HB2.out.mono hsz)⟩
      case measure => simp [intOf]; omega
    · have hk1 : ¬ ((k : Int) - 1 > 0) := by omega
      go_wp2
      go_ret
      exact ⟨rfl, HB.out⟩
end Go.Proofs.Ytpkldcnkadfhgaa
