/- What Log and Held do. -/
import Derived.Test.YtapbghkoijmjeaaWhich
namespace Go.Proofs.Ytapbghkoijmjeaa
set_option linter.unusedVariables false
set_option linter.unusedSimpArgs false
open Go.RowKit Go.Shelf
abbrev loC (e : Ld.En) : List Value := [.int .i64 e.what, .int .i64 e.task, .int .i64 e.frm, .int .i64 e.to_]
def LogR (w wr : World) (v : Value) (l : List Ld.En) : Prop := wr.ownsRow w.heap.size 46 4 v l.length (l.flatMap loC) ∧ Below w.heap.size w wr
def logPost (w : World) (l : List Ld.En) (e : Ending) (w' : World) : Prop := ∃ p cap, e = .returned (.slice p l.length cap) ∧ l.length ≤ cap ∧ cap ≤ maxLen ∧ LogR w w' (.slice p l.length cap) l
theorem flat_snoc {α : Type} (f : α → List Value) {l : List α} {k : Nat} {x : α} (h : l[k]? = some x) : (l.take (k + 1)).flatMap f = (l.take k).flatMap f ++ f x := by
  have hk := List.getElem?_eq_some_iff.1 h
  rw [List.take_succ_eq_append_getElem hk.1, hk.2, List.flatMap_append]; simp
theorem take_snoc' {α : Type} {l : List α} {k : Nat} {x : α} (h : l[k]? = some x) : l.take (k + 1) = l.take k ++ [x] := by
  have hk := List.getElem?_eq_some_iff.1 h
  rw [List.take_succ_eq_append_getElem hk.1, hk.2]
section
variable {w : World} {own : Own} {lb : Nat} {L : Lay} {t : Ld.T}
set_option maxRecDepth 100000 in
theorem log_nil (w : World) : Calls Try.prog 19 #[.pointer none] w (same w (.slice none 0 0)) := by
  unfold same
  go_enter Try.func19, Try.ntmps19
  go_wp2
  go_ret
  exact ⟨rfl, rfl⟩
set_option maxRecDepth 100000 in
set_option maxHeartbeats 4000000 in
theorem log_any (h : Rep w own lb L t) (hn : t.es.length ≤ 1000) : Calls Try.prog 19 #[ptr lb] w (logPost w t.es) := by
  obtain ⟨q, cap, ee, h1, h2, h3⟩ := h.eform
  have c1 := h.blk.cell 1 _ rfl
  rw [ee] at c1
  have hlt := h.blk.lt
  have HC := Lib.hid h3
  obtain ⟨n, hnn⟩ : ∃ n, n = t.es.length := ⟨_, rfl⟩
  have HN := Lib.hid hnn
  rw [← hnn] at hn c1 h1
  obtain ⟨i0, hi, hz0, hz1, hz2⟩ := info_parts info46
  have HI := Lib.hid hi; have HZ0 := Lib.hid hz0; have HZ1 := Lib.hid hz1; have HZ2 := Lib.hid hz2
  have hml : (2000000 : Nat) ≤ maxLen := by decide
  unfold maxLen at h2
  unfold logPost
  rw [← hnn]
  clear h ee h3 hnn hi hz0 hz1 hz2
  go_enter Try.func19, Try.ntmps19
  go_wp2_with fail
  go_loopw [3, 13] (fun v i wr => ∃ (k : Nat) (pv : Option Addr) (cv : Nat), k ≤ n ∧ i = .int .i64 k ∧ v = .slice pv k cv ∧ k ≤ cv ∧ cv ≤ maxLen ∧ LogR w wr (.slice pv k cv) (t.es.take k)) (fun _ i _ => n - (intOf i).toNat)
  case atStart => exact ⟨0, none, 0, Nat.zero_le _, rfl, rfl, Nat.le_refl _, Nat.zero_le _, by simpa using World.ownsRow_nil w w.heap.size 46 4, Below.refl _ _⟩
  case round =>
    obtain ⟨k, pv, cv, hk, rfl, rfl, hv1, hv2, hT⟩ := hrel
    have hlk : (t.es.take k).length = k := by rw [List.length_take]; have := HN.out; omega
    unfold LogR at hT
    rw [hlk] at hT
    have HT := Lib.hid hT
    clear hlk
    by_cases hlt : k < n
    · obtain ⟨e, he⟩ : ∃ e, t.es[k]? = some e := ⟨_, List.getElem?_eq_getElem (by have := HN.out; omega)⟩
      obtain ⟨g, rfl, -, hg, -, hcell⟩ := HC.out (by have := HN.out; omega)
      have hb0 := hT.2
      have q0 : wr.cell? ⟨g, k * 6, none⟩ = some (.int .i64 e.what) := cell_of hb0 (hcell k e he 0 _ rfl)
      have q1 := cell_of hb0 (hcell k e he 1 _ rfl)
      have q2 := cell_of hb0 (hcell k e he 2 _ rfl)
      have q3 := cell_of hb0 (hcell k e he 3 _ rfl)
      have q4 := cell_of hb0 (hcell k e he 4 _ rfl)
      have q5 := cell_of hb0 (hcell k e he 5 _ rfl)
      have hgr : g < wr.heap.size := Nat.lt_of_lt_of_le hg hb0.size
      have HE := Lib.hid he
      have hsz := hT.2.size
      have j1 : (k : Int) < (n : Int) := by omega
      have HB3 := Lib.hid (HT.out.2.alloc hsz (.cells #[.int .i64 e.what, .int .i64 e.task, .int .i64 e.frm, .int .i64 e.to_, .bool e.cr, .bool e.lk] 76))
      have hsz3 := HB3.out.size
      have HROW := Lib.hid (HT.out.1.alloc (.cells #[.int .i64 e.what, .int .i64 e.task, .int .i64 e.frm, .int .i64 e.to_, .bool e.cr, .bool e.lk] 76))
      have t1 : k + 1 ≤ maxLen := by omega
      clear hT he hcell hb0
      go_wp2_with (at_builtin; refine wpList_append_own_at _ (by rfl) (.tmp 17) (.tmp 20) 25 (by rfl) w.heap.size 46 i0 _ 4 32 Try.underlying25 HI.out HZ0.out HZ1.out HZ2.out (by rfl) (by decide) (.slice pv k cv) k _ (by rfl) (HROW.out.alloc _) ⟨wr.heap.size + 1, 0, none⟩ 1 1 (loC e) (by rfl) (by rfl) (by have := cells_new (wr.alloc (.cells #[.int .i64 e.what, .int .i64 e.task, .int .i64 e.frm, .int .i64 e.to_, .bool e.cr, .bool e.lk] 76)) (loC e) 46; rwa [World.size_alloc] at this) (by simp [Value.oneCell']) t1 (by omega) (by simp; omega) ?_)
      intro v5 w5 hown5 hG5 _ hat5
      obtain ⟨g5, cp5, rfl⟩ := ownsRow_succ hown5
      have hcp5 : k + 1 ≤ cp5 ∧ cp5 ≤ maxLen := by
        rcases hown5.2 with ⟨e, _⟩ | ⟨g', cap', cur, e, h1, h2, h3, h4, h5⟩
        · cases e
        · cases e; exact ⟨h3, h4⟩
      have HCP := Lib.hid hcp5
      have HT5 : Hid (LogR w w5 (.slice (some ⟨g5, 0, none⟩) (k + 1) cp5) (t.es.take (k + 1))) := Lib.hid ⟨by
        have e1 : (t.es.take (k + 1)).length = k + 1 := by rw [List.length_take]; have := HN.out; omega
        rw [e1, flat_snoc loC HE.out]; exact hown5, (HB3.out.alloc hsz3 _).grown hG5 (by simp; omega) (fun b e => (HROW.out.lt b e).1)⟩
      clear hown5 hG5 hat5 t1 hcp5
      go_wp2
      go_roundw
      case rel => exact ⟨k + 1, some ⟨g5, 0, none⟩, cp5, by omega, by go_num, rfl, HCP.out.1, HCP.out.2, HT5.out⟩
      case measure => simp [intOf]; omega
    · obtain rfl : k = n := by omega
      have HF : Hid (LogR w wr (.slice pv k cv) t.es) := Lib.hid (by
        have e1 : t.es.take k = t.es := by rw [HN.out, List.take_length]
        have := HT.out
        rw [e1] at this
        exact ⟨by rw [← HN.out]; exact this.1, this.2⟩)
      clear hT
      go_wp2
      go_ret
      exact ⟨_, _, rfl, hv1, hv2, HF.out⟩
end
end Go.Proofs.Ytapbghkoijmjeaa
