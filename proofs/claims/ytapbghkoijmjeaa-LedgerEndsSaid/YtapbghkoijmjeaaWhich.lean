/- The positions of entries of a kind. -/
import Derived.Shelf.Abstract
import Derived.Test.YtapbghkoijmjeaaRel
namespace Go.Proofs.Ytapbghkoijmjeaa
set_option linter.unusedVariables false
set_option linter.unusedSimpArgs false
open Go.RowKit Go.Shelf
/-- A list of numbers in new memory. -/
def NumsR (w wr : World) (v : Value) (l : List Int) : Prop := wr.ownsRow w.heap.size 3 1 v l.length (l.map (Value.int .i64)) ∧ Below w.heap.size w wr
def numsPost (w : World) (l : List Int) (e : Ending) (w' : World) : Prop := ∃ p cap, e = .returned (.slice p l.length cap) ∧ l.length ≤ cap ∧ cap ≤ maxLen ∧ NumsR w w' (.slice p l.length cap) l
def ints (l : List Nat) : List Int := List.map (fun n : Nat => (n : Int)) l
theorem which_le (p : Ld.En → Bool) (l : List Ld.En) : (Ld.which p l).length ≤ l.length := by
  have := List.length_filter_le (Ld.hit p l) (List.range l.length)
  unfold Ld.which
  rwa [List.length_range] at this
theorem which_take (p : Ld.En → Bool) (l : List Ld.En) {k : Nat} {e : Ld.En} (h : l[k]? = some e) : Ld.which p (l.take (k + 1)) = Ld.which p (l.take k) ++ (if p e then [k] else []) := by
  have hk := (List.getElem?_eq_some_iff.1 h).1
  have h1 : (l.take (k + 1)).length = k + 1 := by rw [List.length_take]; omega
  have h2 : (l.take k).length = k := by rw [List.length_take]; omega
  unfold Ld.which
  rw [h1, h2, List.range_succ, List.filter_append]
  congr 1
  · apply List.filter_congr
    intro i hi
    rw [List.mem_range] at hi
    unfold Ld.hit
    rw [List.getElem?_take, List.getElem?_take, if_pos (by omega), if_pos hi]
  · have : Ld.hit p (l.take (k + 1)) k = p e := by
      unfold Ld.hit
      rw [List.getElem?_take, if_pos (by omega), h]
    rw [List.filter_cons, this]
    simp
set_option maxRecDepth 100000 in
theorem pred47 (e : Ld.En) (w : World) : Calls Try.prog 47 #[.agg #[.int .i64 e.what, .int .i64 e.task, .int .i64 e.frm, .int .i64 e.to_, .bool e.cr, .bool e.lk]] w (still w (.bool e.cr)) := by
  unfold still
  go_enter Try.func47, Try.ntmps47
  go_wp2
  go_ret
  exact ⟨rfl, one _ _⟩
set_option maxRecDepth 100000 in
theorem pred48 (e : Ld.En) (w : World) : Calls Try.prog 48 #[.agg #[.int .i64 e.what, .int .i64 e.task, .int .i64 e.frm, .int .i64 e.to_, .bool e.cr, .bool e.lk]] w (still w (.bool e.lk)) := by
  unfold still
  go_enter Try.func48, Try.ntmps48
  go_wp2
  go_ret
  exact ⟨rfl, one _ _⟩
set_option maxRecDepth 100000 in
theorem pred49 (e : Ld.En) (w : World) : Calls Try.prog 49 #[.agg #[.int .i64 e.what, .int .i64 e.task, .int .i64 e.frm, .int .i64 e.to_, .bool e.cr, .bool e.lk]] w (still w (.bool (Ld.unsound e))) := by
  obtain ⟨a, b, c, d, x, y⟩ := e
  unfold still Ld.unsound
  by_cases h : d = 0
  · subst h
    go_enter Try.func49, Try.ntmps49
    go_wp2
    go_ret
    exact ⟨by simp, one _ _⟩
  · have h1 : (d == 0) = false := by simpa using h
    have h2 : decide (d = 0) = false := by simpa using h
    simp only [h2]
    clear h h2
    cases x with
    | true =>
      go_enter Try.func49, Try.ntmps49
      go_wp2
      go_ret
      exact ⟨by simp, one _ _⟩
    | false =>
      go_enter Try.func49, Try.ntmps49
      go_wp2
      go_ret
      exact ⟨by simp, one _ _⟩
section
variable {w : World} {own : Own} {lb : Nat} {L : Lay} {t : Ld.T}
set_option maxRecDepth 100000 in
set_option maxHeartbeats 4000000 in
theorem which_any (f : Nat) (p : Ld.En → Bool) (heg : ∀ args w, (callFunc f args).run Try.prog w = .ok (.enter f args) w) (h : Rep w own lb L t) (hn : t.es.length ≤ 1000) (hf : ∀ W e, Calls Try.prog f #[.agg #[.int .i64 e.what, .int .i64 e.task, .int .i64 e.frm, .int .i64 e.to_, .bool e.cr, .bool e.lk]] W (still W (.bool (p e)))) :
    Calls Try.prog 46 #[ptr lb, .func (.func f) #[] #[]] w (numsPost w (ints (Ld.which p t.es))) := by
  obtain ⟨q, cap, ee, h1, h2, h3⟩ := h.eform
  have c1 := h.blk.cell 1 _ rfl
  rw [ee] at c1
  have hlt := h.blk.lt
  have HC := Lib.hid h3
  have HH := Lib.hid h
  have HF := Lib.hid hf
  have HEG := Lib.hid heg
  unfold still at HF
  obtain ⟨n, hnn⟩ : ∃ n, n = t.es.length := ⟨_, rfl⟩
  have HN := Lib.hid hnn
  rw [← hnn] at hn c1 h1
  obtain ⟨i0, hi, hz0, hz1, hz2⟩ := info_parts info3
  have HI := Lib.hid hi; have HZ0 := Lib.hid hz0; have HZ1 := Lib.hid hz1; have HZ2 := Lib.hid hz2
  have hml : (2000000 : Nat) ≤ maxLen := by decide
  unfold maxLen at h2
  clear h ee h3 hf hnn hi hz0 hz1 hz2 heg
  go_enter Try.func46, Try.ntmps46
  go_wp2_with fail
  go_loopw [5, 15] (fun v i wr => ∃ (k : Nat) (m : Nat) (pv : Option Addr) (cv : Nat), k ≤ n ∧ i = .int .i64 k ∧ v = .slice pv m cv ∧ m ≤ k ∧ m ≤ cv ∧ cv ≤ maxLen ∧ Hid (m = (ints (Ld.which p (t.es.take k))).length) ∧ NumsR w wr (.slice pv m cv) (ints (Ld.which p (t.es.take k)))) (fun _ i _ => n - (intOf i).toNat)
  case atStart => exact ⟨0, 0, none, 0, Nat.zero_le _, rfl, rfl, Nat.le_refl _, Nat.zero_le _, Nat.zero_le _, Lib.hid (by simp [ints, Ld.which]), by simpa [ints, Ld.which] using World.ownsRow_nil w w.heap.size 3 1, Below.refl _ _⟩
  case round =>
    obtain ⟨k, m, pv, cv, hk, rfl, rfl, hmk, hv1, hv2, HM, hT⟩ := hrel
    unfold NumsR at hT
    rw [← HM.out] at hT
    have HT := Lib.hid hT
    by_cases hlt : k < n
    · obtain ⟨e, he⟩ : ∃ e, t.es[k]? = some e := ⟨_, List.getElem?_eq_getElem (by have := HN.out; omega)⟩
      obtain ⟨g, rfl, -, hg, -, hcell⟩ := HC.out (by have := HN.out; omega)
      have hb0 := hT.2
      have q0 : wr.cell? ⟨g, k * 6, none⟩ = some (.int .i64 e.what) := cell_of hb0 (hcell k e he 0 _ rfl)
      have q1 := cell_of hb0 (hcell k e he 1 _ rfl)
      have q2 := cell_of hb0 (hcell k e he 2 _ rfl)
      have q3 := cell_of hb0 (hcell k e he 3 _ rfl)
      have q4 := cell_of hb0 (hcell k e he 4 _ rfl)
      have q5 := cell_of hb0 (hcell k e he 5 _ rfl)
      have hgr : g < wr.heap.size := Nat.lt_of_lt_of_le hg hb0.size
      have HWT := Lib.hid (which_take p t.es he)
      have hsz := hT.2.size
      have j1 : (k : Int) < (n : Int) := by omega
      clear hT he hcell hb0
      have heg := HEG.out
      have CALL := Lib.hid (HF.out (wr.alloc (.cells #[.int .i64 e.what, .int .i64 e.task, .int .i64 e.frm, .int .i64 e.to_, .bool e.cr, .bool e.lk] 76)) e)
      have HBW := Lib.hid (HT.out.2.alloc hsz (.cells #[.int .i64 e.what, .int .i64 e.task, .int .i64 e.frm, .int .i64 e.to_, .bool e.cr, .bool e.lk] 76))
      cases hpe : p e with
      | false =>
        rw [hpe] at CALL
        go_wp2_with fail
        refine CALL.out.mono ?_
        rintro e2 w2 ⟨rfl, hb2⟩
        have HT2 : Hid (NumsR w w2 (.slice pv m cv) (ints (Ld.which p (t.es.take (k + 1)))) ∧ m = (ints (Ld.which p (t.es.take (k + 1)))).length) := Lib.hid (by
          rw [HWT.out, hpe]
          simp only [Bool.false_eq_true, if_false, List.append_nil]
          have hb3 := HBW.out.trans (hb2.mono HBW.out.size)
          refine ⟨⟨?_, hb3⟩, HM.out⟩
          rw [← HM.out]
          exact owns_fr (HT.out.1.alloc _) (Fr.of_below hb2 : Fr none_ _ _) (fun _ _ h => h.elim))
        clear hb2 hpe heg
        go_wp2
        go_roundw
        case rel => exact ⟨k + 1, m, pv, cv, by omega, by go_num, rfl, by omega, hv1, hv2, Lib.hid HT2.out.2, HT2.out.1⟩
        case measure => simp [intOf]; omega
      | true =>
        rw [hpe] at CALL
        go_wp2_with fail
        refine CALL.out.mono ?_
        rintro e2 w2 ⟨rfl, hb2⟩
        have hb3 := HBW.out.trans (hb2.mono HBW.out.size)
        have HB3 := Lib.hid hb3
        have hsz3 := hb3.size
        have HROW := Lib.hid (owns_fr (HT.out.1.alloc (.cells #[.int .i64 e.what, .int .i64 e.task, .int .i64 e.frm, .int .i64 e.to_, .bool e.cr, .bool e.lk] 76)) (Fr.of_below hb2 : Fr none_ _ _) (fun _ _ h => h.elim))
        have t1 : m + 1 ≤ maxLen := by omega
        have HPE := Lib.hid hpe
        clear hb2 hpe heg hb3
        go_wp2_with (at_builtin; refine wpList_append_own_at _ (by rfl) (.tmp 23) (.tmp 25) 36 (by rfl) w.heap.size 3 i0 (.int .i64 0) 1 8 Try.underlying36 HI.out HZ0.out HZ1.out HZ2.out (by rfl) (by decide) (.slice pv m cv) m _ (by rfl) (HROW.out.alloc _) ⟨w2.heap.size, 0, none⟩ 1 1 [natV k] (by rfl) (by rfl) (cell_one_new _ _ _) (by simp [Value.oneCell']) t1 (by omega) (by simp; omega) ?_)
        intro v5 w5 hown5 hG5 _ hat5
        obtain ⟨g5, cp5, rfl⟩ := ownsRow_succ hown5
        have hcp5 : m + 1 ≤ cp5 ∧ cp5 ≤ maxLen := by
          rcases hown5.2 with ⟨e, _⟩ | ⟨g', cap', cur, e, h1, h2, h3, h4, h5⟩
          · cases e
          · cases e; exact ⟨h3, h4⟩
        have HCP := Lib.hid hcp5
        have HT5 : Hid (NumsR w w5 (.slice (some ⟨g5, 0, none⟩) (m + 1) cp5) (ints (Ld.which p (t.es.take (k + 1)))) ∧ m + 1 = (ints (Ld.which p (t.es.take (k + 1)))).length) := Lib.hid (by
          rw [HWT.out, HPE.out]
          have e1 : ints (Ld.which p (t.es.take k) ++ if true = true then [k] else []) = ints (Ld.which p (t.es.take k)) ++ [(k : Int)] := by simp [ints]
          rw [e1]
          have e2 : (ints (Ld.which p (t.es.take k)) ++ [(k : Int)]).length = m + 1 := by rw [List.length_append, ← HM.out]; rfl
          refine ⟨⟨?_, (HB3.out.alloc hsz3 _).grown hG5 (by simp; omega) (fun b e => (HROW.out.lt b e).1)⟩, e2.symm⟩
          rw [e2, List.map_append]
          exact hown5)
        clear hown5 hG5 hat5 t1 hcp5
        go_wp2
        go_roundw
        case rel => exact ⟨k + 1, m + 1, some ⟨g5, 0, none⟩, cp5, by omega, by go_num, rfl, by omega, HCP.out.1, HCP.out.2, Lib.hid HT5.out.2, HT5.out.1⟩
        case measure => simp [intOf]; omega
    · obtain rfl : k = n := by omega
      have HF : Hid (NumsR w wr (.slice pv m cv) (ints (Ld.which p t.es)) ∧ m = (ints (Ld.which p t.es)).length) := Lib.hid (by
        have e1 : t.es.take k = t.es := by rw [HN.out, List.take_length]
        have := HT.out
        have h5 := HM.out
        rw [e1] at this h5
        exact ⟨⟨by rw [← h5]; exact this.1, this.2⟩, h5⟩)
      clear hT
      go_wp2
      go_ret
      have h5 := HF.out.2
      refine ⟨pv, cv, by rw [← h5]; rfl, by rw [← h5]; exact hv1, hv2, ?_⟩
      rw [← h5]
      exact HF.out.1
set_option maxRecDepth 100000 in
theorem crossed_any (h : Rep w own lb L t) (hn : t.es.length ≤ 1000) : Calls Try.prog 20 #[ptr lb] w (numsPost w (ints (Ld.which (fun e => e.cr) t.es))) := by
  have A := Lib.hid (which_any 47 (fun e => e.cr) (enters_of Try.func47 (by kernel_rfl) rfl) h hn fun W e => pred47 e W)
  unfold numsPost at A ⊢
  clear h
  go_enter Try.func20, Try.ntmps20
  go_wp2_with fail
  refine A.out.mono ?_
  rintro e w2 ⟨p, cap, rfl, h1, h2, h3⟩
  go_wp2
  go_ret
  exact ⟨p, cap, rfl, h1, h2, h3⟩
set_option maxRecDepth 100000 in
theorem leaks_any (h : Rep w own lb L t) (hn : t.es.length ≤ 1000) : Calls Try.prog 21 #[ptr lb] w (numsPost w (ints (Ld.which (fun e => e.lk) t.es))) := by
  have A := Lib.hid (which_any 48 (fun e => e.lk) (enters_of Try.func48 (by kernel_rfl) rfl) h hn fun W e => pred48 e W)
  unfold numsPost at A ⊢
  clear h
  go_enter Try.func21, Try.ntmps21
  go_wp2_with fail
  refine A.out.mono ?_
  rintro e w2 ⟨p, cap, rfl, h1, h2, h3⟩
  go_wp2
  go_ret
  exact ⟨p, cap, rfl, h1, h2, h3⟩
def Ld.sound (t : Ld.T) : Bool := (Ld.which Ld.unsound t.es).length == 0
set_option maxRecDepth 100000 in
theorem sound_any (h : Rep w own lb L t) (hn : t.es.length ≤ 1000) : Calls Try.prog 22 #[ptr lb] w (still w (.bool (Ld.sound t))) := by
  have A := Lib.hid (which_any 49 Ld.unsound (enters_of Try.func49 (by kernel_rfl) rfl) h hn fun W e => pred49 e W)
  have HL : Hid ((ints (Ld.which Ld.unsound t.es)).length = (Ld.which Ld.unsound t.es).length) := Lib.hid (by simp [ints])
  have hlt := h.blk.lt
  unfold numsPost at A
  rw [HL.out] at A
  unfold still Ld.sound
  generalize (Ld.which Ld.unsound t.es).length = m at *
  clear h
  go_enter Try.func22, Try.ntmps22
  go_wp2_with fail
  refine A.out.mono ?_
  rintro e w2 ⟨p, cap, rfl, h1, h2, h3⟩
  have HB := Lib.hid h3.2
  clear h3
  go_wp2
  go_ret
  exact ⟨by cases m with | zero => rfl | succ m => simp; omega, HB.out⟩
end
end Go.Proofs.Ytapbghkoijmjeaa
