/- What Over and Rest do. -/
import Derived.Test.YtajccigefoddiaaRd
namespace Go.Proofs.Ytajccigefoddiaa
set_option linter.unusedVariables false
set_option linter.unusedSimpArgs false
open Go.RowKit Go.Shelf
section
variable {W W' w : World} {own : Own} {rb cb ab cap : Nat} {vs : List Av} {t : St.T} {A : Nat → Prop}
set_option maxRecDepth 100000 in
theorem contains_any (h : Rep w own rb cb ab vs cap t) : Calls Try.prog 56 #[.slice (some ⟨ab, 0, none⟩) t.acts.length cap, .func (.func 57) #[] #[]] w (still w (.bool (!t.over))) := by
  have H := Lib.hid (index_any h)
  unfold still
  generalize t.acts.length = n at *
  generalize t.over = ov at *
  clear h
  go_enter Try.func56, Try.ntmps56
  go_wp2_with fail
  refine H.out.mono ?_
  rintro e w1 ⟨⟨k, rfl, h1, h2, h3⟩, hb⟩
  have HB := Lib.hid hb
  cases ov with
  | true =>
    have j1 : decide (k ≥ 0) = false := by simp only [ge_iff_le, decide_eq_false_iff_not]; intro h; have := h3.1 h; cases this
    clear hb h3
    go_wp2
    go_ret
    exact ⟨by first | rfl | (congr 2; done) | (congr 2; simpa using j1), HB.out⟩
  | false =>
    have j0 : 0 ≤ k := h3.2 rfl
    clear hb h3
    go_wp2
    go_ret
    exact ⟨by first | rfl | (congr 2; done) | (congr 2; simp; omega), HB.out⟩
set_option maxRecDepth 100000 in
theorem Over_nil (w : World) : Calls Try.prog 27 #[.pointer none] w (same w (.bool true)) := by
  unfold same
  go_enter Try.func27, Try.ntmps27
  go_wp2
  go_ret
  exact ⟨rfl, rfl⟩
set_option maxRecDepth 100000 in
theorem Over_any (h : Rep w own rb cb ab vs cap t) : Calls Try.prog 27 #[ptr rb] w (still w (.bool t.over)) := by
  have H := Lib.hid (contains_any h)
  have c3 := h.dq.blk.cell 3 _ rfl
  have hlt := h.dq.blk.lt
  unfold still at H ⊢
  generalize t.acts.length = n at *
  generalize t.over = ov at *
  clear h
  go_enter Try.func27, Try.ntmps27
  go_wp2_with fail
  refine H.out.mono ?_
  rintro e w1 ⟨rfl, hb⟩
  have HB := Lib.hid hb
  clear hb
  cases ov with
  | true =>
    go_wp2
    go_ret
    exact ⟨rfl, HB.out⟩
  | false =>
    go_wp2
    go_ret
    exact ⟨rfl, HB.out⟩
set_option maxRecDepth 100000 in
theorem Rest_nil (w : World) : Calls Try.prog 21 #[.pointer none] w (same w (.slice none 0 0)) := by
  unfold same
  go_enter Try.func21, Try.ntmps21
  go_wp2
  go_ret
  exact ⟨rfl, rfl⟩
def restUpto (d : St.Dq) (k : Nat) : List Int := (List.range k).map fun i => d.cell (d.top + i)
theorem restUpto_succ (d : St.Dq) (k : Nat) : restUpto d (k + 1) = restUpto d k ++ [d.cell (d.top + k)] := by
  unfold restUpto; rw [List.range_succ, List.map_append]; rfl
theorem restUpto_len (d : St.Dq) (k : Nat) : (restUpto d k).length = k := by simp [restUpto]
set_option maxRecDepth 100000 in
set_option maxHeartbeats 2000000 in
theorem Rest_any (h : Rep w own rb cb ab vs cap t) : Calls Try.prog 21 #[ptr rb] w (numsPost w t.d.rest) := by
  have HH := Lib.hid h
  have c1 := h.dq.blk.cell 1 _ rfl
  have c2 := h.dq.blk.cell 2 _ rfl
  have hlt := h.dq.blk.lt
  have hcl := h.dq.cel.lt
  have ht := h.dq.top
  have hb := h.dq.bot
  have hb2 := h.dq.bot2
  obtain ⟨d, hd⟩ : ∃ d, d = t.d := ⟨_, rfl⟩
  have HD := Lib.hid hd
  rw [← hd] at c1 c2 ht hb hb2 ⊢
  obtain ⟨m, hm⟩ : ∃ m, m = (d.bottom - d.top).toNat := ⟨_, rfl⟩
  have HR : Hid (d.rest = restUpto d m) := Lib.hid (by rw [hm]; rfl)
  rw [HR.out]
  obtain ⟨i0, hi, hz0, hz1, hz2⟩ := info_parts info3
  have HI := Lib.hid hi; have HZ0 := Lib.hid hz0; have HZ1 := Lib.hid hz1; have HZ2 := Lib.hid hz2
  have hml : (2000000 : Nat) ≤ maxLen := by decide
  unfold numsPost
  have hm2 : m ≤ 100001 := by omega
  have HMd := Lib.hid hm
  clear h hi hz0 hz1 hz2 hd hm
  go_enter Try.func21, Try.ntmps21
  go_wp2_with fail
  go_loopw [3, 4] (fun v i wr => ∃ (k : Nat) (pv : Option Addr) (cv : Nat), k ≤ m ∧ i = .int .i64 ((d.top + k : Nat) : Int) ∧ v = .slice pv k cv ∧ k ≤ cv ∧ cv ≤ maxLen ∧ Hid (wr.ownsRow w.heap.size 3 1 (.slice pv k cv) k (ints (restUpto d k))) ∧ Hid (Below w.heap.size w wr)) (fun _ i _ => (d.top + m) - (intOf i).toNat)
  case atStart => exact ⟨0, none, 0, Nat.zero_le _, by simp, rfl, Nat.zero_le _, Nat.zero_le _, Lib.hid (World.ownsRow_nil _ _ _ _), Lib.hid (Below.refl _ _)⟩
  case round =>
    obtain ⟨k, pv, cv, hk, rfl, rfl, hv1, hv2, HROW, HB⟩ := hrel
    have r1 : wr.cell? ⟨rb, 1, none⟩ = some (natV d.top) := cell_of HB.out c1
    have r2 : wr.cell? ⟨rb, 2, none⟩ = some (.int .i64 d.bottom) := cell_of HB.out c2
    have hlr : rb < wr.heap.size := Nat.lt_of_lt_of_le hlt HB.out.size
    by_cases hlt2 : k < m
    · have j1 : ((d.top + k : Nat) : Int) < d.bottom := by have := HMd.out; omega
      have hD := (HH.out.below HB.out).dq
      rw [← HD.out] at hD
      have C := Lib.hid (cell_any hD (d.top + k) (by omega))
      have KC : Hid (∀ W, Below wr.heap.size wr W → W.cell? ⟨cb, d.place (d.top + k), none⟩ = some (.int .i64 (d.cell (d.top + k)))) := Lib.hid fun W hW => dr_pos hD hW _
      have hcr : cb < wr.heap.size := Nat.lt_of_lt_of_le hcl HB.out.size
      have HS := Lib.hid (restUpto_succ d k)
      unfold still at C
      generalize d.place (d.top + k) = pl at *
      generalize d.cell (d.top + k) = y at *
      clear hD
      go_wp2_with fail
      refine C.out.mono ?_
      rintro e w2 ⟨rfl, hb2⟩
      have y1 := KC.out _ hb2
      have hz := hb2.size
      have hc2 := Nat.lt_of_lt_of_le hcr hb2.size
      have HB2 := Lib.hid (HB.out.trans (hb2.mono HB.out.size))
      have HROW2 := Lib.hid (owns_fr HROW.out (Fr.of_below hb2 : Fr none_ _ _) (fun _ _ h => h))
      have hz2 := HB2.out.size
      clear hb2 C
      have t1 : k + 1 ≤ maxLen := by omega
      go_wp2_with (at_builtin; refine wpList_append_own_at _ (by rfl) (.tmp 21) (.tmp 29) 22 (by rfl) w.heap.size 3 i0 (.int .i64 0) 1 8 Try.underlying22 HI.out HZ0.out HZ1.out HZ2.out (by rfl) (by decide) (.slice pv k cv) k _ (by rfl) (HROW2.out.alloc _) ⟨w2.heap.size, 0, none⟩ 1 1 [.int .i64 y] (by rfl) (by rfl) (cell_one_new _ _ _) (by simp [Value.oneCell']) t1 (by omega) (by simp; omega) ?_)
      intro v5 w5 hown5 hG5 _ hat5
      obtain ⟨g5, cp5, rfl⟩ := ownsRow_succ hown5
      have hcp5 : k + 1 ≤ cp5 ∧ cp5 ≤ maxLen := by
        rcases hown5.2 with ⟨e, _⟩ | ⟨g', cap', cur, e, h1, h2, h3, h4, h5⟩
        · cases e
        · cases e; exact ⟨h3, h4⟩
      have HCP := Lib.hid hcp5
      have HO5 : Hid (w5.ownsRow w.heap.size 3 1 (.slice (some ⟨g5, 0, none⟩) (k + 1) cp5) (k + 1) (ints (restUpto d (k + 1)))) := Lib.hid (by
        rw [HS.out]
        have e1 : ints (restUpto d k ++ [y]) = ints (restUpto d k) ++ [.int .i64 y] := by simp [ints]
        rw [e1]
        exact hown5)
      have HB5 : Hid (Below w.heap.size w w5) := Lib.hid ((HB2.out.alloc hz2 _).grown hG5 (by simp; omega) (fun b e => (HROW2.out.lt b e).1))
      clear hown5 hG5 hat5 hcp5 t1
      go_wp2
      go_roundw
      case rel => exact ⟨k + 1, some ⟨g5, 0, none⟩, cp5, by omega, by go_num, rfl, HCP.out.1, HCP.out.2, HO5, HB5⟩
      case measure => simp [intOf]; omega
    · obtain rfl : k = m := by omega
      have j1 : decide (((d.top + k : Nat) : Int) < d.bottom) = false := by have := HMd.out; simp; omega
      have j2 : decide ((d.top : Int) + (k : Int) < d.bottom) = false := by have := HMd.out; simp; omega
      have j3 : d.bottom ≤ (d.top : Int) + (k : Int) := by have := HMd.out; omega
      have HL : Hid ((restUpto d k).length = k) := Lib.hid (restUpto_len d k)
      go_wp2
      go_ret
      refine ⟨pv, cv, by rw [HL.out]; rfl, by rw [HL.out]; exact hv1, hv2, by rw [HL.out]; exact HROW.out, HB.out⟩
end
end Go.Proofs.Ytajccigefoddiaa
