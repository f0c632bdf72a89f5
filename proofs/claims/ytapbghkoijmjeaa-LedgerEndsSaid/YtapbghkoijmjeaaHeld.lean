/- What Held does. -/
import Derived.Test.YtapbghkoijmjeaaLog
namespace Go.Proofs.Ytapbghkoijmjeaa
set_option linter.unusedVariables false
set_option linter.unusedSimpArgs false
open Go.RowKit Go.Shelf
def heldPost (w : World) (r : List Int × Int) (e : Ending) (w' : World) : Prop := ∃ p cap, e = .returned (.tuple #[.slice p r.1.length cap, .int .i64 r.2]) ∧ r.1.length ≤ cap ∧ cap ≤ maxLen ∧ NumsR w w' (.slice p r.1.length cap) r.1
theorem nums_nil (w : World) : NumsR w w (.slice none 0 0) [] := ⟨World.ownsRow_nil _ _ _ _, Below.refl _ _⟩
section
variable {w : World} {own : Own} {lb : Nat} {L : Lay} {t : Ld.T}
set_option maxRecDepth 100000 in
theorem held_bad (q : Addr) (w : World) (task : Int) (hb : Ld.knows task = false) : Calls Try.prog 16 #[.pointer (some q), .int .i64 task] w (same w (.tuple #[.slice none 0 0, .int .i64 2])) := by
  unfold same
  have KN := Lib.hid (knows_no task q w hb)
  unfold same at KN
  clear hb
  go_enter Try.func16, Try.ntmps16
  go_wp2_with fail
  refine KN.out.mono ?_
  rintro e w2 ⟨rfl, rfl⟩
  go_wp2
  go_ret2
  exact ⟨rfl, rfl⟩
set_option maxRecDepth 100000 in
theorem held_nil (w : World) (task : Int) : Calls Try.prog 16 #[.pointer none, .int .i64 task] w (same w (.tuple #[.slice none 0 0, .int .i64 2])) := by
  unfold same
  have KN := Lib.hid (knows_nil task w)
  unfold same at KN
  go_enter Try.func16, Try.ntmps16
  go_wp2_with fail
  refine KN.out.mono ?_
  rintro e w2 ⟨rfl, rfl⟩
  go_wp2
  go_ret2
  exact ⟨rfl, rfl⟩
set_option maxRecDepth 100000 in
set_option maxHeartbeats 4000000 in
theorem held_ok (h : Rep w own lb L t) (hk : Ld.Ok t) {k : Nat} (h1 : 1 ≤ k) (h2 : k ≤ 64) :
    Calls Try.prog 16 #[ptr lb, .int .i64 (k : Int)] w (heldPost w ((t.hs k).map (Ld.whatOf t), 0)) := by
  have KN := Lib.hid (knows_yes (k : Int) ⟨lb, 0, none⟩ w (by omega) (by omega))
  unfold same at KN
  obtain ⟨ph, ch, eh, gh1, gh2, gh3⟩ := h.hform (k := k) (by omega)
  have ck := h.hcell (k := k) (by omega)
  rw [eh] at ck
  obtain ⟨q, cap, ee, ge1, ge2, ge3⟩ := h.eform
  have c1 := h.blk.cell 1 _ rfl
  rw [ee] at c1
  have hlt := h.blk.lt
  have HLB := Lib.hid hlt
  have HG3 := Lib.hid gh3
  have HC := Lib.hid ge3
  have HLT := Lib.hid (hk.lt k)
  have hn40 := hk.n40 k
  have hn400 := hk.n400
  obtain ⟨n, hnn⟩ : ∃ n, n = (t.hs k).length := ⟨_, rfl⟩
  have HN := Lib.hid hnn
  obtain ⟨m, hmm⟩ : ∃ m, m = t.es.length := ⟨_, rfl⟩
  have HM := Lib.hid hmm
  rw [← hnn] at ck gh1 hn40
  rw [← hmm] at c1 ge1 hn400
  obtain ⟨i0, hi, hz0, hz1, hz2⟩ := info_parts info3
  have HI := Lib.hid hi; have HZ0 := Lib.hid hz0; have HZ1 := Lib.hid hz1; have HZ2 := Lib.hid hz2
  have hml : (2000000 : Nat) ≤ maxLen := by decide
  unfold maxLen at ge2 gh2
  unfold heldPost
  simp only [List.length_map]
  rw [← hnn]
  have kk1 : (0 : Int) ≤ (k : Int) := by omega
  have kk2 : (k : Int) < 65 := by omega
  have kk3 : ((k : Int)).toNat = k := by omega
  clear h hk ee eh ge3 gh3 hnn hmm hi hz0 hz1 hz2
  go_enter Try.func16, Try.ntmps16
  go_wp2_with fail
  refine KN.out.mono ?_
  rintro e w2 ⟨rfl, rfl⟩
  go_wp2_with fail
  go_loopw [6, 22] (fun v i wr => ∃ (j : Nat) (pv : Option Addr) (cv : Nat), j ≤ n ∧ i = .int .i64 j ∧ v = .slice pv j cv ∧ j ≤ cv ∧ cv ≤ maxLen ∧ NumsR w wr (.slice pv j cv) (((t.hs k).take j).map (Ld.whatOf t))) (fun _ i _ => n - (intOf i).toNat)
  case atStart => exact ⟨0, none, 0, Nat.zero_le _, rfl, rfl, Nat.le_refl _, Nat.zero_le _, by simpa using World.ownsRow_nil w w.heap.size 3 1, Below.refl _ _⟩
  case round =>
    obtain ⟨j, pv, cv, hj, rfl, rfl, hv1, hv2, hT⟩ := hrel
    have hlj : (((t.hs k).take j).map (Ld.whatOf t)).length = j := by rw [List.length_map, List.length_take]; have := HN.out; omega
    unfold NumsR at hT
    rw [hlj] at hT
    have HT := Lib.hid hT
    clear hlj
    by_cases hlt : j < n
    · obtain ⟨a, ha⟩ : ∃ a, (t.hs k)[j]? = some a := ⟨_, List.getElem?_eq_getElem (by have := HN.out; omega)⟩
      have ham : a < m := by have := HLT.out a (List.mem_of_getElem? ha); have := HM.out; omega
      obtain ⟨e, he⟩ : ∃ e, t.es[a]? = some e := ⟨_, List.getElem?_eq_getElem (by have := HM.out; omega)⟩
      obtain ⟨g, rfl, -, hg, -, hcell⟩ := HC.out (by have := HM.out; omega)
      obtain ⟨gh, rfl, hgh, hcellh⟩ := HG3.out (by have := HN.out; omega)
      have hb0 := hT.2
      have q0 : wr.cell? ⟨g, a * 6, none⟩ = some (.int .i64 e.what) := cell_of hb0 (hcell a e he 0 _ rfl)
      have qh : wr.cell? ⟨gh, j, none⟩ = some (.int .i64 (a : Int)) := cell_of hb0 (hcellh j a ha)
      have c1r := cell_of hb0 c1
      have hgr : g < wr.heap.size := Nat.lt_of_lt_of_le hg hb0.size
      have hghr : gh < wr.heap.size := Nat.lt_of_lt_of_le hgh hb0.size
      have hlr : lb < wr.heap.size := Nat.lt_of_lt_of_le HLB.out hb0.size
      have HA := Lib.hid ha
      have HE : Hid (Ld.whatOf t a = e.what) := Lib.hid (by unfold Ld.whatOf; rw [he])
      have hsz := hT.2.size
      have j1 : (j : Int) < (n : Int) := by omega
      have j2 : (a : Int) < (m : Int) := by omega
      have j3 : (0 : Int) ≤ (a : Int) := by omega
      have j4 : ((a : Int)).toNat = a := by omega
      have HROW := Lib.hid hT.1
      have t1 : j + 1 ≤ maxLen := by omega
      clear hT he ha hcell hcellh hb0
      go_wp2_with (at_builtin; refine wpList_append_own_at _ (by rfl) (.tmp 26) (.tmp 36) 36 (by rfl) w.heap.size 3 i0 (.int .i64 0) 1 8 Try.underlying36 HI.out HZ0.out HZ1.out HZ2.out (by rfl) (by decide) (.slice pv j cv) j _ (by rfl) (HROW.out.alloc _) ⟨wr.heap.size, 0, none⟩ 1 1 [.int .i64 e.what] (by rfl) (by rfl) (cell_one_new _ _ _) (by simp [Value.oneCell']) t1 (by omega) (by simp; omega) ?_)
      intro v5 w5 hown5 hG5 _ hat5
      obtain ⟨g5, cp5, rfl⟩ := ownsRow_succ hown5
      have hcp5 : j + 1 ≤ cp5 ∧ cp5 ≤ maxLen := by
        rcases hown5.2 with ⟨e, _⟩ | ⟨g', cap', cur, e, h1, h2, h3, h4, h5⟩
        · cases e
        · cases e; exact ⟨h3, h4⟩
      have HCP := Lib.hid hcp5
      have HT5 : Hid (NumsR w w5 (.slice (some ⟨g5, 0, none⟩) (j + 1) cp5) (((t.hs k).take (j + 1)).map (Ld.whatOf t))) := Lib.hid ⟨by
        have e1 : (((t.hs k).take (j + 1)).map (Ld.whatOf t)).length = j + 1 := by rw [List.length_map, List.length_take]; have := HN.out; omega
        rw [e1, take_snoc' HA.out, List.map_append, List.map_append, List.map_cons, HE.out, List.map_map, List.map_take]; exact hown5, (HT.out.2.alloc hsz _).grown hG5 (by simp; omega) (fun b e => (HROW.out.lt b e).1)⟩
      clear hown5 hG5 hat5 t1 hcp5
      go_wp2
      go_roundw
      case rel => exact ⟨j + 1, some ⟨g5, 0, none⟩, cp5, by omega, by go_num, rfl, HCP.out.1, HCP.out.2, HT5.out⟩
      case measure => simp [intOf]; omega
    · obtain rfl : j = n := by omega
      have HF : Hid (NumsR w wr (.slice pv j cv) ((t.hs k).map (Ld.whatOf t))) := Lib.hid (by
        have e1 : (t.hs k).take j = t.hs k := by rw [HN.out, List.take_length]
        have := HT.out
        rw [e1] at this
        exact ⟨by rw [List.length_map, ← HN.out]; exact this.1, this.2⟩)
      clear hT
      go_wp2
      go_ret2
      exact ⟨_, _, rfl, hv1, hv2, HF.out⟩
theorem held_any (h : Rep w own lb L t) (hk : Ld.Ok t) (task : Int) : Calls Try.prog 16 #[ptr lb, .int .i64 task] w (heldPost w (Ld.held t task)) := by
  unfold Ld.held
  by_cases hb : Ld.knows task = false
  · rw [if_pos hb]
    refine (held_bad ⟨lb, 0, none⟩ w task hb).mono ?_
    rintro e w' ⟨rfl, rfl⟩
    exact ⟨none, 0, rfl, Nat.le_refl _, Nat.zero_le _, nums_nil _⟩
  · rw [if_neg hb]
    obtain ⟨k, rfl, h1, h2⟩ := knows_nat (by simpa using hb)
    rw [show ((k : Int)).toNat = k by omega]
    exact held_ok h hk h1 h2
end
end Go.Proofs.Ytapbghkoijmjeaa
