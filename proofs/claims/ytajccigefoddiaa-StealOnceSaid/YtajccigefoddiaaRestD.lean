/- The rest of a race by its deque alone. -/
import Derived.Test.YtajccigefoddiaaRd2
namespace Go.Proofs.Ytajccigefoddiaa
set_option linter.unusedVariables false
set_option linter.unusedSimpArgs false
open Go.RowKit Go.Shelf
section
variable {w : World} {rb cb : Nat} {av : Value} {d : St.Dq}
set_option maxRecDepth 100000 in
set_option maxHeartbeats 2000000 in
theorem RestD (h : Dr w rb cb av d) : Calls Try.prog 21 #[ptr rb] w (numsPost w d.rest) := by
  have HH := Lib.hid h
  have c1 := h.blk.cell 1 _ rfl
  have c2 := h.blk.cell 2 _ rfl
  have hlt := h.blk.lt
  have hcl := h.cel.lt
  have ht := h.top
  have hb := h.bot
  have hb2 := h.bot2
  obtain ⟨m, hm⟩ : ∃ m, m = (d.bottom - d.top).toNat := ⟨_, rfl⟩
  have HR : Hid (d.rest = restUpto d m) := Lib.hid (by rw [hm]; rfl)
  rw [HR.out]
  obtain ⟨i0, hi, hz0, hz1, hz2⟩ := info_parts info3
  have HI := Lib.hid hi; have HZ0 := Lib.hid hz0; have HZ1 := Lib.hid hz1; have HZ2 := Lib.hid hz2
  have hml : (2000000 : Nat) ≤ maxLen := by decide
  unfold numsPost
  have hm2 : m ≤ 100001 := by omega
  have HMd := Lib.hid hm
  clear h hi hz0 hz1 hz2 hm
  go_enter Try.func21, Try.ntmps21
  go_wp2_with fail
  go_loopw [3, 4] (fun v i wr => ∃ (k : Nat) (pv : Option Addr) (cv : Nat), k ≤ m ∧ i = .int .i64 ((d.top + k : Nat) : Int) ∧ v = .slice pv k cv ∧ k ≤ cv ∧ cv ≤ maxLen ∧ Hid (wr.ownsRow w.heap.size 3 1 (.slice pv k cv) k (ints (restUpto d k))) ∧ Hid (Below w.heap.size w wr)) (fun _ i _ => (d.top + m) - (intOf i).toNat)
  case atStart => exact ⟨0, none, 0, Nat.zero_le _, by simp, rfl, Nat.zero_le _, Nat.zero_le _, Lib.hid (World.ownsRow_nil _ _ _ _), Lib.hid (Below.refl _ _)⟩
  case round =>
    obtain ⟨k, pv, cv, hk, rfl, rfl, hv1, hv2, HROW, HB⟩ := hrel
    have r1 : wr.cell? ⟨rb, 1, none⟩ = some (natV d.top) := cell_of HB.out c1
    have r2 : wr.cell? ⟨rb, 2, none⟩ = some (.int .i64 d.bottom) := cell_of HB.out c2
    have hlr : rb < wr.heap.size := Nat.lt_of_lt_of_le hlt HB.out.size
    by_cases hlt2 : k < m
    · have j1 : ((d.top + k : Nat) : Int) < d.bottom := by have := HMd.out; omega
      have hD := HH.out.below HB.out
      have C := Lib.hid (cell_any hD (d.top + k) (by omega))
      have KC : Hid (∀ W, Below wr.heap.size wr W → W.cell? ⟨cb, d.place (d.top + k), none⟩ = some (.int .i64 (d.cell (d.top + k)))) := Lib.hid fun W hW => dr_pos hD hW _
      have hcr : cb < wr.heap.size := Nat.lt_of_lt_of_le hcl HB.out.size
      have HS := Lib.hid (restUpto_succ d k)
      unfold still at C
      generalize d.place (d.top + k) = pl at *
      generalize d.cell (d.top + k) = y at *
      clear hD
      go_wp2_with fail
      refine C.out.mono ?_
      rintro e w2 ⟨rfl, hb2⟩
      have y1 := KC.out _ hb2
      have hz := hb2.size
      have hc2 := Nat.lt_of_lt_of_le hcr hb2.size
      have HB2 := Lib.hid (HB.out.trans (hb2.mono HB.out.size))
      have HROW2 := Lib.hid (owns_fr HROW.out (Fr.of_below hb2 : Fr none_ _ _) (fun _ _ h => h))
      have hz2 := HB2.out.size
      clear hb2 C
      have t1 : k + 1 ≤ maxLen := by omega
      go_wp2_with (at_builtin; refine wpList_append_own_at _ (by rfl) (.tmp 21) (.tmp 29) 22 (by rfl) w.heap.size 3 i0 (.int .i64 0) 1 8 Try.underlying22 HI.out HZ0.out HZ1.out HZ2.out (by rfl) (by decide) (.slice pv k cv) k _ (by rfl) (HROW2.out.alloc _) ⟨w2.heap.size, 0, none⟩ 1 1 [.int .i64 y] (by rfl) (by rfl) (cell_one_new _ _ _) (by simp [Value.oneCell']) t1 (by omega) (by simp; omega) ?_)
      intro v5 w5 hown5 hG5 _ hat5
      obtain ⟨g5, cp5, rfl⟩ := ownsRow_succ hown5
      have hcp5 : k + 1 ≤ cp5 ∧ cp5 ≤ maxLen := by
        rcases hown5.2 with ⟨e, _⟩ | ⟨g', cap', cur, e, h1, h2, h3, h4, h5⟩
        · cases e
        · cases e; exact ⟨h3, h4⟩
      have HCP := Lib.hid hcp5
      have HO5 : Hid (w5.ownsRow w.heap.size 3 1 (.slice (some ⟨g5, 0, none⟩) (k + 1) cp5) (k + 1) (ints (restUpto d (k + 1)))) := Lib.hid (by
        rw [HS.out]
        have e1 : ints (restUpto d k ++ [y]) = ints (restUpto d k) ++ [.int .i64 y] := by simp [ints]
        rw [e1]
        exact hown5)
      have HB5 : Hid (Below w.heap.size w w5) := Lib.hid ((HB2.out.alloc hz2 _).grown hG5 (by simp; omega) (fun b e => (HROW2.out.lt b e).1))
      clear hown5 hG5 hat5 hcp5 t1
      go_wp2
      go_roundw
      case rel => exact ⟨k + 1, some ⟨g5, 0, none⟩, cp5, by omega, by go_num, rfl, HCP.out.1, HCP.out.2, HO5, HB5⟩
      case measure => simp [intOf]; omega
    · obtain rfl : k = m := by omega
      have j1 : decide (((d.top + k : Nat) : Int) < d.bottom) = false := by have := HMd.out; simp; omega
      have j2 : decide ((d.top : Int) + (k : Int) < d.bottom) = false := by have := HMd.out; simp; omega
      have j3 : d.bottom ≤ (d.top : Int) + (k : Int) := by have := HMd.out; omega
      have HL : Hid ((restUpto d k).length = k) := Lib.hid (restUpto_len d k)
      go_wp2
      go_ret
      refine ⟨pv, cv, by rw [HL.out]; rfl, by rw [HL.out]; exact hv1, hv2, by rw [HL.out]; exact HROW.out, HB.out⟩
end
end Go.Proofs.Ytajccigefoddiaa
