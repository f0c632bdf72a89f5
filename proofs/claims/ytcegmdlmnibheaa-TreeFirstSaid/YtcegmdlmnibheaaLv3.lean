/- What Leave does. -/
import Derived.Test.YtcegmdlmnibheaaFinAny
namespace Go.Proofs.Ytcegmdlmnibheaa
set_option linter.unusedVariables false
set_option linter.unusedSimpArgs false
open Go.RowKit
section
variable {w : World} {own : Own} {tb : Nat} {L : Lay} {t : Tr.T}
set_option maxRecDepth 100000 in
set_option maxHeartbeats 8000000 in
theorem leave_k2y (h : Rep w own tb L t) (hl : Lim t) (f : Tr.F) (hs : f.s.size ≤ 9223372036854775807) {i : Nat} {x : Tr.Tk} (hx : t.ts[i]? = some x) (hd : x.done = false) (hv : Tr.validB f = true) (hlv : x.leav = false) {j : Nat} (ho : x.op.getLast? = some (some j)) {y : Tr.Sc} (hy : t.ss[j]? = some y) (hk : f.k = 2) (hbz : Tr.busy (t) (y) = true) :
   Calls Try.prog 19 #[ptr tb, .int .i64 ((i : Int) + 1), flV f] w (goneE w own tb ((Tr.finish (Tr.setT (t) i { x with leav := true, left := f }) j).1, Tr.eScope j :: (Tr.finish (Tr.setT (t) i { x with leav := true, left := f }) j).2, 0)) := by
  have A : Hid (∀ o, Calls Try.prog 55 #[ptr tb, .int .i64 ((i : Int) + 1)] (w.alloc o) (same (w.alloc o) (.tuple #[tkP L i, .int .i64 0]))) := Lib.hid fun o => running_ok (h.below (one _ _)) hx hd
  have V : Hid (∀ w, Calls Try.prog 56 #[flV f] w (still w (.bool true))) := Lib.hid fun w => by have := valid_any f w hs; rw [hv] at this; exact this
  have IN : Hid (∀ W, Rep W own tb L t → Calls Try.prog 60 #[tkP L i] W fun e w' => e = .returned (.tuple #[scP L (some j), .bool true]) ∧ ∃ n, w' = W.drewN n) := Lib.hid fun W hW => by have := inner_any hW hx; rw [ho] at this; exact this
  have FN : Hid (∀ W u y, Rep W own tb L u → u.ss[j]? = some y → y.tks.length ≤ 1000000 → Calls Try.prog 59 #[scP L (some j)] W (finAny W own tb L u j)) := Lib.hid fun W u y h1 h2 h3 => finish_any h1 h2 h3
  have TK : Hid (∀ W u y, Rep W own tb L u → u.ss[j]? = some y → Calls Try.prog 57 #[scP L (some j), flV f] W fun e w' => e = .returned (.bool (Tr.takes y)) ∧ Rep w' own tb L (Tr.setS u j (Tr.taken y f)) ∧ Fr (fun k => own k ≠ none) W w') := Lib.hid fun W u y h1 h2 =>
    (take_any h1 h2 f).mono fun e w' hp => ⟨hp.1, hp.2.1, hp.2.2.widen fun k e _ => by rw [e, (h1.sc j y h2).mine]; simp⟩
  have BZ : Hid (∀ W u y, Rep W own tb L u → u.ss[j]? = some y → y.tks.length ≤ 1000000 → Calls Try.prog 61 #[scP L (some j)] W (still W (.bool (Tr.busy u y)))) := Lib.hid fun W u y h1 h2 h3 => busy_any h1 h2 h3
  unfold same tkP at A
  unfold still at V BZ
  unfold tkP scP at IN
  unfold scP at FN TK BZ
  have HX := Lib.hid hx
  have HH := Lib.hid h
  have HLI := Lib.hid hl
  have HY := Lib.hid hy
  have HLV := Lib.hid hlv
  have hk1 : (f.k == 1) = false := by rw [hk]; rfl
  have hk0 : (f.k != 0) = true := by rw [hk]; rfl
  have HBZ := Lib.hid hbz
  clear hbz
  clear hk
  unfold flV at *
  clear h hx hd hv hlv ho hl hy
  go_enter Try.func19, Try.ntmps19
  go_wp2_with fail
  refine (A.out _).mono ?_
  rintro e w2 ⟨rfl, rfl⟩
  have C : Hid (Blk (w.alloc (.cells #[.int .i64 f.k, .string f.s] 37)) w.heap.size [.int .i64 f.k, .string f.s]) := Lib.hid (Blk.new w #[.int .i64 f.k, .string f.s] 37)
  have c0 := C.out.cell 0 _ rfl
  have c1 := C.out.cell 1 _ rfl
  go_wp2_with fail
  refine (V.out _).mono ?_
  rintro e w3 ⟨rfl, hb3⟩
  have hB3 := (one w (.cells #[.int .i64 f.k, .string f.s] 37)).trans (hb3.mono (by simp))
  have R3 : Rep w3 own tb L t := HH.out.below hB3
  have HR3 := Lib.hid R3
  have I3 := Lib.hid (IN.out w3 R3)
  have HS3 : Hid (Step w own w3 own) := Lib.hid (Step.below hB3)
  have HC3 := Lib.hid (C.out.below hb3 C.out.lt)
  clear c0 c1 hb3 R3 hB3 IN C
  go_wp2_with fail
  refine I3.out.mono ?_
  rintro e w4' ⟨rfl, n4, rfl⟩
  have HR4 : Hid (Rep (w3.drewN n4) own tb L t) := Lib.hid (HR3.out.drewN n4)
  have HS4 : Hid (Step w own (w3.drewN n4) own) := Lib.hid (HS3.out.trans (Step.below (drewN_below w3 n4)))
  have HC4 := Lib.hid (HC3.out.drewN n4)
  clear HR3 HS3 HC3 I3
  generalize w3.drewN n4 = w4 at *
  have d6 := (HR4.out.tk i x HX.out).blk.cell 6 _ rfl
  rw [HLV.out] at d6
  have l4 := (HR4.out.tk i x HX.out).blk.lt
  have lb4 := (HR4.out.sc j y HY.out).blk.lt
  have f40 := HC4.out.cell 0 _ rfl
  have f41 := HC4.out.cell 1 _ rfl
  have lf4 := HC4.out.lt
  have HRt := HR4
  have HSt := HS4
  have HCt := HC4
  have HXt := HX
  have HYt := HY
  have HLt : Hid (y.tks.length ≤ 1000000) := Lib.hid (HLI.out.tks j y HY.out)
  have B8 := Lib.hid (BZ.out w4 _ _ HRt.out HYt.out HLt.out)
  rw [HBZ.out] at B8
  go_wp2_with fail
  refine B8.out.mono ?_
  rintro e wb ⟨rfl, hbb⟩
  have HRb := Lib.hid (HRt.out.below hbb)
  have HSb : Hid (Step w own wb own) := Lib.hid (HSt.out.trans (Step.below hbb))
  have HCb := Lib.hid (HCt.out.below hbb HCt.out.lt)
  clear hbb B8 BZ HRt HSt HCt f40 f41 lf4
  obtain ⟨HRt, HSt, HCt⟩ : Hid _ ∧ Hid _ ∧ Hid _ := ⟨HRb, HSb, HCb⟩
  clear HRb HSb HCb
  have f40 := HCt.out.cell 0 _ rfl
  have f41 := HCt.out.cell 1 _ rfl
  have lf4 := HCt.out.lt
  have CA := Lib.hid (cancelled_any HRt.out HYt.out)
  unfold still scP efV at CA
  go_wp2_with fail
  refine CA.out.mono ?_
  rintro e wc ⟨rfl, hbc⟩
  have HSc : Hid (Step w own wc own) := Lib.hid (HSt.out.trans (Step.below hbc))
  have HRc := Lib.hid (HRt.out.below hbc)
  have HCc := Lib.hid (HCt.out.below hbc HCt.out.lt)
  have hsc := HSc.out.size
  clear hbc CA HRt HSt HCt f40 f41 lf4
  obtain ⟨i0, hi, hz0, hz1, hz2⟩ := info_parts info76
  have HI := Lib.hid hi; have HZ0 := Lib.hid hz0; have HZ1 := Lib.hid hz1; have HZ2 := Lib.hid hz2
  clear hi hz0 hz1 hz2
  have hsc1 : w.heap.size ≤ (wc.alloc (.cells #[.int .i64 (Tr.eScope j).k, .int .i64 (Tr.eScope j).n, .int .i64 (Tr.eScope j).m, .int .i64 (Tr.eScope j).f.k, .string (Tr.eScope j).f.s] 76)).heap.size := by simp; omega
  go_wp2_with (at_builtin; refine wpList_append_own_at (wc.alloc (.cells #[.int .i64 (Tr.eScope j).k, .int .i64 (Tr.eScope j).n, .int .i64 (Tr.eScope j).m, .int .i64 (Tr.eScope j).f.k, .string (Tr.eScope j).f.s] 76)) (by rfl) (.tmp 53) (.tmp 56) 46 (by rfl) w.heap.size 76 i0 _ 5 48 Try.underlying46 HI.out HZ0.out HZ1.out HZ2.out (by rfl) (by decide) (.slice none 0 0) 0 [] (by rfl) (World.ownsRow_nil _ _ _ _) ⟨wc.heap.size, 0, none⟩ 1 1 (efC (Tr.eScope j)) (by rfl) (by rfl) (cells_one_new wc (Tr.eScope j)) (efC_one _) (by decide) (by decide) hsc1 ?_)
  intro v5 w5 hown5 hG5 _ hat5
  obtain ⟨g5, cp5, rfl⟩ := ownsRow_succ hown5
  have HRt : Hid (Rep w5 own tb L (t)) := Lib.hid ((HRc.out.below (one _ _)).grown (v := .slice none 0 0) (by simp [Value.ownBlock]) hG5 (by simp [Value.ownBlock]))
  have HSt : Hid (Step w own w5 own) := Lib.hid (step_grown (v := .slice none 0 0) (HSc.out.trans (Step.below (one _ _))) hG5 (by simp [Value.ownBlock]) (by simp [Value.ownBlock]))
  have HO5 : Hid (own g5 = none ∧ w.heap.size ≤ g5) := Lib.hid (by
    have e : some g5 = some (wc.heap.size + 1) := by rcases hat5 with h | h <;> first | (simp [Value.ownBlock] at h; done) | simpa [Value.ownBlock] using h
    cases e
    exact ⟨HRc.out.not_own (by omega), by omega⟩)
  have HCt := Lib.hid ((HCc.out.alloc (.cells #[.int .i64 (Tr.eScope j).k, .int .i64 (Tr.eScope j).n, .int .i64 (Tr.eScope j).m, .int .i64 (Tr.eScope j).f.k, .string (Tr.eScope j).f.s] 76)).grown hG5 (by simp [Value.ownBlock]))
  have HW5 := Lib.hid hown5
  clear hown5 hG5 hat5 hsc1 HRc HSc HCc
  have f40 := HCt.out.cell 0 _ rfl
  have f41 := HCt.out.cell 1 _ rfl
  have lf4 := HCt.out.lt
  have m1 := (HRt.out.tk i x HXt.out).blk.cell 6 _ rfl
  have m2 := (HRt.out.tk i x HXt.out).blk.cell 7 _ rfl
  have m3 := (HRt.out.tk i x HXt.out).blk.cell 8 _ rfl
  have z1 := (HRt.out.tk i x HXt.out).blk.fz 6
  have z2 := (HRt.out.tk i x HXt.out).blk.fz 7
  have z3 := (HRt.out.tk i x HXt.out).blk.fz 8
  have l3 := (HRt.out.tk i x HXt.out).blk.lt
  have nef : w.heap.size ≠ L.tk i := by have := (HH.out.tk i x HX.out).blk.lt; omega
  have H8 : Hid (Rep (((w5.setCell ⟨L.tk i, 6, none⟩ (.bool true)).setCell ⟨L.tk i, 7, none⟩ (.int .i64 f.k)).setCell ⟨L.tk i, 8, none⟩ (.string f.s)).drew own tb L (Tr.setT (t) i { x with leav := true, left := f }) ∧
      Step w own (((w5.setCell ⟨L.tk i, 6, none⟩ (.bool true)).setCell ⟨L.tk i, 7, none⟩ (.int .i64 f.k)).setCell ⟨L.tk i, 8, none⟩ (.string f.s)).drew own ∧ Fr (fun k => own k ≠ none) w5 (((w5.setCell ⟨L.tk i, 6, none⟩ (.bool true)).setCell ⟨L.tk i, 7, none⟩ (.int .i64 f.k)).setCell ⟨L.tk i, 8, none⟩ (.string f.s)).drew) := Lib.hid (by
    have hF : Fr (fun k => k = L.tk i) w5 (((w5.setCell ⟨L.tk i, 6, none⟩ (.bool true)).setCell ⟨L.tk i, 7, none⟩ (.int .i64 f.k)).setCell ⟨L.tk i, 8, none⟩ (.string f.s)) :=
      Fr.set (Fr.set (Fr.set (Fr.refl (fun k => k = L.tk i) w5) (.inl rfl) 6 (.bool true)) (.inl rfl) 7 (.int .i64 f.k)) (.inl rfl) 8 (.string f.s)
    have hF2 : Fr (fun k => own k ≠ none) w5 (((w5.setCell ⟨L.tk i, 6, none⟩ (.bool true)).setCell ⟨L.tk i, 7, none⟩ (.int .i64 f.k)).setCell ⟨L.tk i, 8, none⟩ (.string f.s)).drew := (hF.widen fun k e _ => by rw [e, (HH.out.tk i x HX.out).mine]; simp).drew
    exact ⟨(HRt.out.turnT (x' := { x with leav := true, left := f }) HXt.out hF ((((HRt.out.tk i x HXt.out).blk.set (o := 6) (by simp [tkC]) _).set (o := 7) (by simp [tkC]) _).set (o := 8) (by simp [tkC]) _) rfl rfl).drew,
      HSt.out.trans ⟨fun _ _ => rfl, hF2⟩, hF2⟩)
  have HY8 : Hid ((Tr.setT (t) i { x with leav := true, left := f }).ss[j]? = some (y)) := HYt
  go_wp2_with fail
  go_region_law (fail)
  all_goals (first | clear d6 | skip)
  all_goals clear m1 m2 m3 z1 z2 z3 f40 f41 l3 lf4
  all_goals (generalize (((w5.setCell ⟨L.tk i, 6, none⟩ (.bool true)).setCell ⟨L.tk i, 7, none⟩ (.int .i64 f.k)).setCell ⟨L.tk i, 8, none⟩ (.string f.s)).drew = w8 at *)
  all_goals have F8 := Lib.hid (FN.out w8 _ _ H8.out.1 HY8.out HLt.out)
  all_goals clear FN
  all_goals go_wp2_with fail
  all_goals have HWW := Lib.hid (owns_fr HW5.out H8.out.2.2 (fun k e hk => by simp [Value.ownBlock] at e; subst e; exact hk HO5.out.1))
  all_goals clear HW5
  all_goals
    refine F8.out.mono ?_
    rintro e w9 (⟨hfin, rfl, hR9, hB9⟩ | ⟨u, b, L9, g, cp, hfin, rfl, hR9, hF9, hrow9⟩)
    · have HFIN := Lib.hid hfin
      clear hfin
      have HF : Hid (GoneE w own tb (Tr.setT (t) i { x with leav := true, left := f }) [Tr.eScope j] (.slice (some ⟨g5, 0, none⟩) (0 + 1) cp5) w9) := Lib.hid (eff_same (H8.out.2.1.trans (Step.below hB9)) hR9 (fun k e => by simp [Value.ownBlock] at e; subst e; exact HO5.out.1) (by have := owns_fr HWW.out (Fr.of_below hB9 : Fr none_ _ _) (fun _ _ h => h.elim); simpa using this))
      have HW9 : Hid (w9.ownsRow w.heap.size 76 5 (.slice (some ⟨g5, 0, none⟩) (0 + 1) cp5) (0 + 1) ([] ++ efC (Tr.eScope j))) := Lib.hid (owns_fr HWW.out (Fr.of_below hB9 : Fr none_ _ _) (fun _ _ h => h.elim))
      clear hR9 hB9 F8
      go_wp2_with (at_builtin; refine wpList_append_own_none (by rfl) (.tmp 65) (.tmp 67) 46 (by rfl) w.heap.size 76 i0 5 Try.underlying46 HI.out (.slice (some ⟨g5, 0, none⟩) (0 + 1) cp5) (0 + 1) ([] ++ efC (Tr.eScope j)) (by rfl) HW9.out (by rfl) ?_)
      go_ret2
      rw [HFIN.out]
      exact ⟨_, _, rfl, HF.out⟩
    · have HFIN := Lib.hid hfin
      clear hfin
      have hg9 : w8.heap.size ≤ g ∧ g < w9.heap.size := hrow9.lt g rfl
      have HS9 : Hid (Step w own w9 own) := Lib.hid (H8.out.2.1.trans ⟨fun _ _ => rfl, hF9⟩)
      have HR9 := Lib.hid hR9
      have HC9 := Lib.hid (row_cells5 hrow9)
      have HW9 := Lib.hid (owns_fr HWW.out hF9 (fun k e hk => by simp [Value.ownBlock] at e; subst e; exact hk HO5.out.1))
      have hs9 := HS9.out.size
      clear hR9 hF9 hrow9 F8
      go_wp2_with (at_builtin; refine wpList_append_own_at _ (by rfl) (.tmp 65) (.tmp 67) 46 (by rfl) w.heap.size 76 i0 _ 5 48 Try.underlying46 HI.out HZ0.out HZ1.out HZ2.out (by rfl) (by decide) (.slice (some ⟨g5, 0, none⟩) (0 + 1) cp5) (0 + 1) ([] ++ efC (Tr.eScope j)) (by rfl) HW9.out ⟨g, 0, none⟩ 1 cp (efC b) (by rfl) (by rfl) HC9.out (efC_one b) (by decide) (by decide) hs9 ?_)
      intro v6 w6 hown6 hG6 _ hat6
      obtain ⟨g6, cp6, rfl⟩ := ownsRow_succ hown6
      have HF := Lib.hid (eff_end (es := [Tr.eScope j, b]) (v1 := .slice (some ⟨g5, 0, none⟩) (0 + 1) cp5) HS9.out HR9.out hG6 (fun k e => by simp [Value.ownBlock] at e; subst e; exact ⟨HO5.out.2, HO5.out.1⟩) hown6 rfl (by simp) hat6 (owns_cells HW9.out))
      clear hown6 hG6 hat6
      go_wp2
      go_ret2
      rw [HFIN.out]
      exact ⟨_, _, rfl, HF.out⟩
end
end Go.Proofs.Ytcegmdlmnibheaa
