/- What End does. -/
import Derived.Test.YtcegmdlmnibheaaFinAny
namespace Go.Proofs.Ytcegmdlmnibheaa
set_option linter.unusedVariables false
set_option linter.unusedSimpArgs false
open Go.RowKit
section
variable {w : World} {own : Own} {tb : Nat} {L : Lay} {t : Tr.T}
set_option maxRecDepth 100000 in
set_option maxHeartbeats 8000000 in
theorem end_p4 (h : Rep w own tb L t) (hl : Lim t) (f : Tr.F) (hs : f.s.size ≤ 9223372036854775807) {i : Nat} {x : Tr.Tk} (hx : t.ts[i]? = some x) (hd : x.done = false) (hv : Tr.validB f = true) (ho : x.op = []) {j : Nat} (hsc : x.sc = some j) {y : Tr.Sc} (hy : t.ss[j]? = some y) (hk : f.k = 1) (hsp : y.sup = false) (htk : Tr.takes y = true) :
   Calls Try.prog 18 #[ptr tb, .int .i64 ((i : Int) + 1), flV f] w (goneE w own tb ((Tr.finish (Tr.take (Tr.setT t i { x with done := true, flt := f }) j f) j).1, Tr.eScope j :: (Tr.finish (Tr.take (Tr.setT t i { x with done := true, flt := f }) j f) j).2, 0)) := by
  have A : Hid (∀ o, Calls Try.prog 55 #[ptr tb, .int .i64 ((i : Int) + 1)] (w.alloc o) (same (w.alloc o) (.tuple #[tkP L i, .int .i64 0]))) := Lib.hid fun o => running_ok (h.below (one _ _)) hx hd
  have V : Hid (∀ w, Calls Try.prog 56 #[flV f] w (still w (.bool true))) := Lib.hid fun w => by have := valid_any f w hs; rw [hv] at this; exact this
  unfold same tkP at A
  unfold still at V
  have HX := Lib.hid hx
  have HH := Lib.hid h
  obtain ⟨p, cap, e, -⟩ := (h.tk i x hx).form
  have HE := Lib.hid e
  rw [ho] at HE
  have HSC := Lib.hid hsc
  have HLI := Lib.hid hl
  have HY := Lib.hid hy
  have FN : Hid (∀ W u y, Rep W own tb L u → u.ss[j]? = some y → y.tks.length ≤ 1000000 → Calls Try.prog 59 #[scP L (some j)] W (finAny W own tb L u j)) := Lib.hid fun W u y h1 h2 h3 => finish_any h1 h2 h3
  unfold scP at FN
  have hk1 : (f.k == 1) = true := by simpa using hk
  have HSUP := Lib.hid hsp
  have HTKS := Lib.hid htk
  have HTE : Hid (Tr.take (Tr.setT t i { x with done := true, flt := f }) j f = Tr.setS (Tr.setT t i { x with done := true, flt := f }) j (Tr.taken y f)) := Lib.hid (by unfold Tr.take; rw [show (Tr.setT t i { x with done := true, flt := f }).ss[j]? = some y from hy])
  have TK : Hid (∀ W u y, Rep W own tb L u → u.ss[j]? = some y → Calls Try.prog 57 #[scP L (some j), flV f] W fun e w' => e = .returned (.bool (Tr.takes y)) ∧ Rep w' own tb L (Tr.setS u j (Tr.taken y f)) ∧ Fr (fun k => own k ≠ none) W w') := Lib.hid fun W u y h1 h2 =>
    (take_any h1 h2 f).mono fun e w' hp => ⟨hp.1, hp.2.1, hp.2.2.widen fun k e _ => by rw [e, (h1.sc j y h2).mine]; simp⟩
  unfold scP flV at TK
  clear hk hsp htk
  unfold flV at *
  clear h hx hd hv ho hsc e hl hy
  go_enter Try.func18, Try.ntmps18
  go_wp2_with fail
  refine (A.out _).mono ?_
  rintro e w2 ⟨rfl, rfl⟩
  have C : Hid (Blk (w.alloc (.cells #[.int .i64 f.k, .string f.s] 37)) w.heap.size [.int .i64 f.k, .string f.s]) := Lib.hid (Blk.new w #[.int .i64 f.k, .string f.s] 37)
  have c0 := C.out.cell 0 _ rfl
  have c1 := C.out.cell 1 _ rfl
  go_wp2_with fail
  refine (V.out _).mono ?_
  rintro e w3 ⟨rfl, hb3⟩
  have hB3 := (one w (.cells #[.int .i64 f.k, .string f.s] 37)).trans (hb3.mono (by simp))
  have R3 : Rep w3 own tb L t := HH.out.below hB3
  have K3 := R3.tk i x HX.out
  have d5 := K3.blk.cell 5 _ rfl
  rw [HE.out] at d5
  have d1 := K3.blk.cell 1 _ rfl
  have d2 := K3.blk.cell 2 _ rfl
  have d3 := K3.blk.cell 3 _ rfl
  have z1 := K3.blk.fz 1
  have z2 := K3.blk.fz 2
  have z3 := K3.blk.fz 3
  have l3 := K3.blk.lt
  have b3 := C.out.below hb3 C.out.lt
  have f0 := b3.cell 0 _ rfl
  have f1 := b3.cell 1 _ rfl
  have lf := b3.lt
  have nef : w.heap.size ≠ L.tk i := by have := (HH.out.tk i x HX.out).blk.lt; omega
  have H8 : Hid (Rep (((w3.setCell ⟨L.tk i, 1, none⟩ (.bool true)).setCell ⟨L.tk i, 2, none⟩ (.int .i64 f.k)).setCell ⟨L.tk i, 3, none⟩ (.string f.s)).drew own tb L (Tr.setT t i { x with done := true, flt := f }) ∧
      Step w own (((w3.setCell ⟨L.tk i, 1, none⟩ (.bool true)).setCell ⟨L.tk i, 2, none⟩ (.int .i64 f.k)).setCell ⟨L.tk i, 3, none⟩ (.string f.s)).drew own ∧
      Blk (((w3.setCell ⟨L.tk i, 1, none⟩ (.bool true)).setCell ⟨L.tk i, 2, none⟩ (.int .i64 f.k)).setCell ⟨L.tk i, 3, none⟩ (.string f.s)).drew w.heap.size [.int .i64 f.k, .string f.s]) := Lib.hid (by
    have hF : Fr (fun k => k = L.tk i) w3 (((w3.setCell ⟨L.tk i, 1, none⟩ (.bool true)).setCell ⟨L.tk i, 2, none⟩ (.int .i64 f.k)).setCell ⟨L.tk i, 3, none⟩ (.string f.s)) :=
      Fr.set (Fr.set (Fr.set (Fr.refl (fun k => k = L.tk i) w3) (.inl rfl) 1 (.bool true)) (.inl rfl) 2 (.int .i64 f.k)) (.inl rfl) 3 (.string f.s)
    exact ⟨(R3.turnT (x' := { x with done := true, flt := f }) HX.out hF (((K3.blk.set (o := 1) (by simp [tkC]) _).set (o := 2) (by simp [tkC]) _).set (o := 3) (by simp [tkC]) _) rfl rfl).drew,
      ⟨fun _ _ => rfl, ((Fr.of_below hB3 : Fr (fun k => own k ≠ none) w w3).thenL hF fun k e => .inl (by rw [e, (HH.out.tk i x HX.out).mine]; simp)).drew⟩,
      (((b3.set_other nef _).set_other nef _).set_other nef _).drew⟩)
  clear c0 c1 hb3 R3 K3 b3 hB3
  go_wp2_with fail
  go_region_law (fail)
  all_goals clear d1 d2 d3 d5 z1 z2 z3 f0 f1 l3 lf
  all_goals (generalize (((w3.setCell ⟨L.tk i, 1, none⟩ (.bool true)).setCell ⟨L.tk i, 2, none⟩ (.int .i64 f.k)).setCell ⟨L.tk i, 3, none⟩ (.string f.s)).drew = w8 at *)
  all_goals have R8 := H8.out.1
  all_goals have HIX : Hid ((Tr.setT t i { x with done := true, flt := f }).ts[i]? = some { x with done := true, flt := f }) := Lib.hid (by simp [Tr.setT, (List.getElem?_eq_some_iff.1 HX.out).1])
  all_goals have e4 := (R8.tk i _ HIX.out).blk.cell 4 _ rfl
  all_goals have l8 := (R8.tk i _ HIX.out).blk.lt
  all_goals simp only [HSC.out, scP] at e4
  all_goals have S8 := (R8.sc j y HY.out).blk
  all_goals have s5 := S8.cell 5 _ rfl
  all_goals have ls8 := S8.lt
  all_goals have g0 := H8.out.2.2.cell 0 _ rfl
  all_goals have g1 := H8.out.2.2.cell 1 _ rfl
  all_goals have lg8 := H8.out.2.2.lt
  all_goals have T8 := Lib.hid (TK.out w8 _ y R8 HY.out)
  all_goals rw [HTKS.out] at T8
  all_goals rw [HSUP.out] at s5
  all_goals clear S8 R8
  all_goals go_wp2_with fail
  all_goals refine T8.out.mono ?_
  all_goals rintro e wt ⟨rfl, hRt, hFt⟩
  all_goals have HSt : Hid (Step w own wt own) := Lib.hid (H8.out.2.1.trans ⟨fun _ _ => rfl, hFt⟩)
  all_goals have HYt : Hid ((Tr.setS (Tr.setT t i { x with done := true, flt := f }) j (Tr.taken y f)).ss[j]? = some (Tr.taken y f)) := Lib.hid (by simp [Tr.setS, Tr.setT, (List.getElem?_eq_some_iff.1 HY.out).1])
  all_goals have HRt := Lib.hid hRt
  all_goals have CA := Lib.hid (cancelled_any hRt HYt.out)
  all_goals unfold still scP efV at CA
  all_goals clear hRt hFt T8
  all_goals go_wp2_with fail
  all_goals refine CA.out.mono ?_
  all_goals rintro e wc ⟨rfl, hbc⟩
  all_goals have HSc : Hid (Step w own wc own) := Lib.hid (HSt.out.trans (Step.below hbc))
  all_goals have HRc := Lib.hid (HRt.out.below hbc)
  all_goals have hsc := HSc.out.size
  all_goals clear hbc CA
  all_goals obtain ⟨i0, hi, hz0, hz1, hz2⟩ := info_parts info76
  all_goals have HI := Lib.hid hi
  all_goals have HZ0 := Lib.hid hz0
  all_goals have HZ1 := Lib.hid hz1
  all_goals have HZ2 := Lib.hid hz2
  all_goals clear hi hz0 hz1 hz2
  all_goals have hsc1 : w.heap.size ≤ (wc.alloc (.cells #[.int .i64 (Tr.eScope j).k, .int .i64 (Tr.eScope j).n, .int .i64 (Tr.eScope j).m, .int .i64 (Tr.eScope j).f.k, .string (Tr.eScope j).f.s] 76)).heap.size := by simp; omega
  all_goals (go_wp2_with (at_builtin; refine wpList_append_own_at (wc.alloc (.cells #[.int .i64 (Tr.eScope j).k, .int .i64 (Tr.eScope j).n, .int .i64 (Tr.eScope j).m, .int .i64 (Tr.eScope j).f.k, .string (Tr.eScope j).f.s] 76)) (by rfl) (.tmp 63) (.tmp 66) 46 (by rfl) w.heap.size 76 i0 _ 5 48 Try.underlying46 HI.out HZ0.out HZ1.out HZ2.out (by rfl) (by decide) (.slice none 0 0) 0 [] (by rfl) (World.ownsRow_nil _ _ _ _) ⟨wc.heap.size, 0, none⟩ 1 1 (efC (Tr.eScope j)) (by rfl) (by rfl) (cells_one_new wc (Tr.eScope j)) (efC_one _) (by decide) (by decide) hsc1 ?_))
  all_goals intro v5 w5 hown5 hG5 _ hat5
  all_goals obtain ⟨g5, cp5, rfl⟩ := ownsRow_succ hown5
  all_goals have HR5 : Hid (Rep w5 own tb L (Tr.setS (Tr.setT t i { x with done := true, flt := f }) j (Tr.taken y f))) := Lib.hid ((HRc.out.below (one _ _)).grown (v := .slice none 0 0) (by simp [Value.ownBlock]) hG5 (by simp [Value.ownBlock]))
  all_goals have HS5 : Hid (Step w own w5 own) := Lib.hid (step_grown (v := .slice none 0 0) (HSc.out.trans (Step.below (one _ _))) hG5 (by simp [Value.ownBlock]) (by simp [Value.ownBlock]))
  all_goals have HO5 : Hid (own g5 = none ∧ w.heap.size ≤ g5) := Lib.hid (by
    have e : some g5 = some (wc.heap.size + 1) := by rcases hat5 with h | h <;> first | (simp [Value.ownBlock] at h; done) | simpa [Value.ownBlock] using h
    cases e
    exact ⟨HRc.out.not_own (by omega), by omega⟩)
  all_goals have HW5 := Lib.hid hown5
  all_goals have F8 := Lib.hid (FN.out w5 _ _ HR5.out HYt.out (by have := HLI.out.tks j y HY.out; unfold Tr.taken; split <;> exact this))
  all_goals clear hown5 hG5 hat5 FN hsc1
  all_goals go_wp2_with fail
  all_goals
    refine F8.out.mono ?_
    rintro e w9 (⟨hfin, rfl, hR9, hB9⟩ | ⟨u, b, L9, g, cp, hfin, rfl, hR9, hF9, hrow9⟩)
    · have HFIN := Lib.hid hfin
      clear hfin
      have HF : Hid (GoneE w own tb (Tr.setS (Tr.setT t i { x with done := true, flt := f }) j (Tr.taken y f)) [Tr.eScope j] (.slice (some ⟨g5, 0, none⟩) (0 + 1) cp5) w9) := Lib.hid (eff_same (HS5.out.trans (Step.below hB9)) hR9 (fun k e => by simp [Value.ownBlock] at e; subst e; exact HO5.out.1) (by have := owns_fr HW5.out (Fr.of_below hB9 : Fr none_ _ _) (fun _ _ h => h.elim); simpa using this))
      have HW9 : Hid (w9.ownsRow w.heap.size 76 5 (.slice (some ⟨g5, 0, none⟩) (0 + 1) cp5) (0 + 1) ([] ++ efC (Tr.eScope j))) := Lib.hid (owns_fr HW5.out (Fr.of_below hB9 : Fr none_ _ _) (fun _ _ h => h.elim))
      clear hR9 hB9 F8
      go_wp2_with (at_builtin; refine wpList_append_own_none (by rfl) (.tmp 68) (.tmp 70) 46 (by rfl) w.heap.size 76 i0 5 Try.underlying46 HI.out (.slice (some ⟨g5, 0, none⟩) (0 + 1) cp5) (0 + 1) ([] ++ efC (Tr.eScope j)) (by rfl) HW9.out (by rfl) ?_)
      go_ret2
      rw [HTE.out, HFIN.out]
      exact ⟨_, _, rfl, HF.out⟩
    · have HFIN := Lib.hid hfin
      clear hfin
      have hg9 : w5.heap.size ≤ g ∧ g < w9.heap.size := hrow9.lt g rfl
      have HS9 : Hid (Step w own w9 own) := Lib.hid (HS5.out.trans ⟨fun _ _ => rfl, hF9⟩)
      have HR9 := Lib.hid hR9
      have HC9 := Lib.hid (row_cells5 hrow9)
      have HW9 := Lib.hid (owns_fr HW5.out hF9 (fun k e hk => by simp [Value.ownBlock] at e; subst e; exact hk HO5.out.1))
      have hs9 := HS9.out.size
      clear hR9 hF9 hrow9 F8
      go_wp2_with (at_builtin; refine wpList_append_own_at _ (by rfl) (.tmp 68) (.tmp 70) 46 (by rfl) w.heap.size 76 i0 _ 5 48 Try.underlying46 HI.out HZ0.out HZ1.out HZ2.out (by rfl) (by decide) (.slice (some ⟨g5, 0, none⟩) (0 + 1) cp5) (0 + 1) ([] ++ efC (Tr.eScope j)) (by rfl) HW9.out ⟨g, 0, none⟩ 1 cp (efC b) (by rfl) (by rfl) HC9.out (efC_one b) (by decide) (by decide) hs9 ?_)
      intro v6 w6 hown6 hG6 _ hat6
      obtain ⟨g6, cp6, rfl⟩ := ownsRow_succ hown6
      have HF := Lib.hid (eff_end (es := [Tr.eScope j, b]) (v1 := .slice (some ⟨g5, 0, none⟩) (0 + 1) cp5) HS9.out HR9.out hG6 (fun k e => by simp [Value.ownBlock] at e; subst e; exact ⟨HO5.out.2, HO5.out.1⟩) hown6 rfl (by simp) hat6 (owns_cells HW9.out))
      clear hown6 hG6 hat6
      go_wp2
      go_ret2
      rw [HTE.out, HFIN.out]
      exact ⟨_, _, rfl, HF.out⟩
end
end Go.Proofs.Ytcegmdlmnibheaa
