/- What End does. -/
import Derived.Test.YtcegmdlmnibheaaFinAny
namespace Go.Proofs.Ytcegmdlmnibheaa
set_option linter.unusedVariables false
set_option linter.unusedSimpArgs false
open Go.RowKit
section
variable {w : World} {own : Own} {tb : Nat} {L : Lay} {t : Tr.T}
set_option maxRecDepth 100000 in
set_option maxHeartbeats 8000000 in
theorem end_root (h : Rep w own tb L t) (hl : Lim t) (f : Tr.F) (hs : f.s.size ≤ 9223372036854775807) {i : Nat} {x : Tr.Tk} (hx : t.ts[i]? = some x) (hd : x.done = false) (hv : Tr.validB f = true) (ho : x.op = []) (hsc : x.sc = none) :
   Calls Try.prog 18 #[ptr tb, .int .i64 ((i : Int) + 1), flV f] w (goneE w own tb (Tr.setT t i { x with done := true, flt := f }, [], 0)) := by
  have A : Hid (∀ o, Calls Try.prog 55 #[ptr tb, .int .i64 ((i : Int) + 1)] (w.alloc o) (same (w.alloc o) (.tuple #[tkP L i, .int .i64 0]))) := Lib.hid fun o => running_ok (h.below (one _ _)) hx hd
  have V : Hid (∀ w, Calls Try.prog 56 #[flV f] w (still w (.bool true))) := Lib.hid fun w => by have := valid_any f w hs; rw [hv] at this; exact this
  unfold same tkP at A
  unfold still at V
  have HX := Lib.hid hx
  have HH := Lib.hid h
  obtain ⟨p, cap, e, -⟩ := (h.tk i x hx).form
  have HE := Lib.hid e
  rw [ho] at HE
  have HSC := Lib.hid hsc
  have HLI := Lib.hid hl
  unfold flV at *
  clear h hx hd hv ho hsc e hl
  go_enter Try.func18, Try.ntmps18
  go_wp2_with fail
  refine (A.out _).mono ?_
  rintro e w2 ⟨rfl, rfl⟩
  have C : Hid (Blk (w.alloc (.cells #[.int .i64 f.k, .string f.s] 37)) w.heap.size [.int .i64 f.k, .string f.s]) := Lib.hid (Blk.new w #[.int .i64 f.k, .string f.s] 37)
  have c0 := C.out.cell 0 _ rfl
  have c1 := C.out.cell 1 _ rfl
  go_wp2_with fail
  refine (V.out _).mono ?_
  rintro e w3 ⟨rfl, hb3⟩
  have hB3 := (one w (.cells #[.int .i64 f.k, .string f.s] 37)).trans (hb3.mono (by simp))
  have R3 : Rep w3 own tb L t := HH.out.below hB3
  have K3 := R3.tk i x HX.out
  have d5 := K3.blk.cell 5 _ rfl
  rw [HE.out] at d5
  have d1 := K3.blk.cell 1 _ rfl
  have d2 := K3.blk.cell 2 _ rfl
  have d3 := K3.blk.cell 3 _ rfl
  have z1 := K3.blk.fz 1
  have z2 := K3.blk.fz 2
  have z3 := K3.blk.fz 3
  have l3 := K3.blk.lt
  have b3 := C.out.below hb3 C.out.lt
  have f0 := b3.cell 0 _ rfl
  have f1 := b3.cell 1 _ rfl
  have lf := b3.lt
  have nef : w.heap.size ≠ L.tk i := by have := (HH.out.tk i x HX.out).blk.lt; omega
  have H8 : Hid (Rep (((w3.setCell ⟨L.tk i, 1, none⟩ (.bool true)).setCell ⟨L.tk i, 2, none⟩ (.int .i64 f.k)).setCell ⟨L.tk i, 3, none⟩ (.string f.s)).drew own tb L (Tr.setT t i { x with done := true, flt := f }) ∧
      Step w own (((w3.setCell ⟨L.tk i, 1, none⟩ (.bool true)).setCell ⟨L.tk i, 2, none⟩ (.int .i64 f.k)).setCell ⟨L.tk i, 3, none⟩ (.string f.s)).drew own ∧
      Blk (((w3.setCell ⟨L.tk i, 1, none⟩ (.bool true)).setCell ⟨L.tk i, 2, none⟩ (.int .i64 f.k)).setCell ⟨L.tk i, 3, none⟩ (.string f.s)).drew w.heap.size [.int .i64 f.k, .string f.s]) := Lib.hid (by
    have hF : Fr (fun k => k = L.tk i) w3 (((w3.setCell ⟨L.tk i, 1, none⟩ (.bool true)).setCell ⟨L.tk i, 2, none⟩ (.int .i64 f.k)).setCell ⟨L.tk i, 3, none⟩ (.string f.s)) :=
      Fr.set (Fr.set (Fr.set (Fr.refl (fun k => k = L.tk i) w3) (.inl rfl) 1 (.bool true)) (.inl rfl) 2 (.int .i64 f.k)) (.inl rfl) 3 (.string f.s)
    exact ⟨(R3.turnT (x' := { x with done := true, flt := f }) HX.out hF (((K3.blk.set (o := 1) (by simp [tkC]) _).set (o := 2) (by simp [tkC]) _).set (o := 3) (by simp [tkC]) _) rfl rfl).drew,
      ⟨fun _ _ => rfl, ((Fr.of_below hB3 : Fr (fun k => own k ≠ none) w w3).thenL hF fun k e => .inl (by rw [e, (HH.out.tk i x HX.out).mine]; simp)).drew⟩,
      (((b3.set_other nef _).set_other nef _).set_other nef _).drew⟩)
  clear c0 c1 hb3 R3 K3 b3 hB3
  go_wp2_with fail
  go_region_law (fail)
  all_goals clear d1 d2 d3 d5 z1 z2 z3 f0 f1 l3 lf
  all_goals (generalize (((w3.setCell ⟨L.tk i, 1, none⟩ (.bool true)).setCell ⟨L.tk i, 2, none⟩ (.int .i64 f.k)).setCell ⟨L.tk i, 3, none⟩ (.string f.s)).drew = w8 at *)
  all_goals have R8 := H8.out.1
  all_goals have HIX : Hid ((Tr.setT t i { x with done := true, flt := f }).ts[i]? = some { x with done := true, flt := f }) := Lib.hid (by simp [Tr.setT, (List.getElem?_eq_some_iff.1 HX.out).1])
  all_goals have e4 := (R8.tk i _ HIX.out).blk.cell 4 _ rfl
  all_goals have l8 := (R8.tk i _ HIX.out).blk.lt
  all_goals simp only [HSC.out, scP] at e4
  all_goals clear R8
  all_goals go_wp2
  all_goals go_ret2
  all_goals exact goneE_nil (H8.out.2.1.gone H8.out.1)
set_option maxRecDepth 100000 in
set_option maxHeartbeats 8000000 in
theorem end_p1 (h : Rep w own tb L t) (hl : Lim t) (f : Tr.F) (hs : f.s.size ≤ 9223372036854775807) {i : Nat} {x : Tr.Tk} (hx : t.ts[i]? = some x) (hd : x.done = false) (hv : Tr.validB f = true) (ho : x.op = []) {j : Nat} (hsc : x.sc = some j) {y : Tr.Sc} (hy : t.ss[j]? = some y) (hk : f.k ≠ 1) :
   Calls Try.prog 18 #[ptr tb, .int .i64 ((i : Int) + 1), flV f] w (goneE w own tb ((Tr.finish (Tr.setT t i { x with done := true, flt := f }) j).1, (Tr.finish (Tr.setT t i { x with done := true, flt := f }) j).2, 0)) := by
  have A : Hid (∀ o, Calls Try.prog 55 #[ptr tb, .int .i64 ((i : Int) + 1)] (w.alloc o) (same (w.alloc o) (.tuple #[tkP L i, .int .i64 0]))) := Lib.hid fun o => running_ok (h.below (one _ _)) hx hd
  have V : Hid (∀ w, Calls Try.prog 56 #[flV f] w (still w (.bool true))) := Lib.hid fun w => by have := valid_any f w hs; rw [hv] at this; exact this
  unfold same tkP at A
  unfold still at V
  have HX := Lib.hid hx
  have HH := Lib.hid h
  obtain ⟨p, cap, e, -⟩ := (h.tk i x hx).form
  have HE := Lib.hid e
  rw [ho] at HE
  have HSC := Lib.hid hsc
  have HLI := Lib.hid hl
  have HY := Lib.hid hy
  have FN : Hid (∀ W u y, Rep W own tb L u → u.ss[j]? = some y → y.tks.length ≤ 1000000 → Calls Try.prog 59 #[scP L (some j)] W (finAny W own tb L u j)) := Lib.hid fun W u y h1 h2 h3 => finish_any h1 h2 h3
  unfold scP at FN
  have hk1 : (f.k == 1) = false := by simpa using hk
  clear hk
  unfold flV at *
  clear h hx hd hv ho hsc e hl hy
  go_enter Try.func18, Try.ntmps18
  go_wp2_with fail
  refine (A.out _).mono ?_
  rintro e w2 ⟨rfl, rfl⟩
  have C : Hid (Blk (w.alloc (.cells #[.int .i64 f.k, .string f.s] 37)) w.heap.size [.int .i64 f.k, .string f.s]) := Lib.hid (Blk.new w #[.int .i64 f.k, .string f.s] 37)
  have c0 := C.out.cell 0 _ rfl
  have c1 := C.out.cell 1 _ rfl
  go_wp2_with fail
  refine (V.out _).mono ?_
  rintro e w3 ⟨rfl, hb3⟩
  have hB3 := (one w (.cells #[.int .i64 f.k, .string f.s] 37)).trans (hb3.mono (by simp))
  have R3 : Rep w3 own tb L t := HH.out.below hB3
  have K3 := R3.tk i x HX.out
  have d5 := K3.blk.cell 5 _ rfl
  rw [HE.out] at d5
  have d1 := K3.blk.cell 1 _ rfl
  have d2 := K3.blk.cell 2 _ rfl
  have d3 := K3.blk.cell 3 _ rfl
  have z1 := K3.blk.fz 1
  have z2 := K3.blk.fz 2
  have z3 := K3.blk.fz 3
  have l3 := K3.blk.lt
  have b3 := C.out.below hb3 C.out.lt
  have f0 := b3.cell 0 _ rfl
  have f1 := b3.cell 1 _ rfl
  have lf := b3.lt
  have nef : w.heap.size ≠ L.tk i := by have := (HH.out.tk i x HX.out).blk.lt; omega
  have H8 : Hid (Rep (((w3.setCell ⟨L.tk i, 1, none⟩ (.bool true)).setCell ⟨L.tk i, 2, none⟩ (.int .i64 f.k)).setCell ⟨L.tk i, 3, none⟩ (.string f.s)).drew own tb L (Tr.setT t i { x with done := true, flt := f }) ∧
      Step w own (((w3.setCell ⟨L.tk i, 1, none⟩ (.bool true)).setCell ⟨L.tk i, 2, none⟩ (.int .i64 f.k)).setCell ⟨L.tk i, 3, none⟩ (.string f.s)).drew own ∧
      Blk (((w3.setCell ⟨L.tk i, 1, none⟩ (.bool true)).setCell ⟨L.tk i, 2, none⟩ (.int .i64 f.k)).setCell ⟨L.tk i, 3, none⟩ (.string f.s)).drew w.heap.size [.int .i64 f.k, .string f.s]) := Lib.hid (by
    have hF : Fr (fun k => k = L.tk i) w3 (((w3.setCell ⟨L.tk i, 1, none⟩ (.bool true)).setCell ⟨L.tk i, 2, none⟩ (.int .i64 f.k)).setCell ⟨L.tk i, 3, none⟩ (.string f.s)) :=
      Fr.set (Fr.set (Fr.set (Fr.refl (fun k => k = L.tk i) w3) (.inl rfl) 1 (.bool true)) (.inl rfl) 2 (.int .i64 f.k)) (.inl rfl) 3 (.string f.s)
    exact ⟨(R3.turnT (x' := { x with done := true, flt := f }) HX.out hF (((K3.blk.set (o := 1) (by simp [tkC]) _).set (o := 2) (by simp [tkC]) _).set (o := 3) (by simp [tkC]) _) rfl rfl).drew,
      ⟨fun _ _ => rfl, ((Fr.of_below hB3 : Fr (fun k => own k ≠ none) w w3).thenL hF fun k e => .inl (by rw [e, (HH.out.tk i x HX.out).mine]; simp)).drew⟩,
      (((b3.set_other nef _).set_other nef _).set_other nef _).drew⟩)
  clear c0 c1 hb3 R3 K3 b3 hB3
  go_wp2_with fail
  go_region_law (fail)
  all_goals clear d1 d2 d3 d5 z1 z2 z3 f0 f1 l3 lf
  all_goals (generalize (((w3.setCell ⟨L.tk i, 1, none⟩ (.bool true)).setCell ⟨L.tk i, 2, none⟩ (.int .i64 f.k)).setCell ⟨L.tk i, 3, none⟩ (.string f.s)).drew = w8 at *)
  all_goals have R8 := H8.out.1
  all_goals have HIX : Hid ((Tr.setT t i { x with done := true, flt := f }).ts[i]? = some { x with done := true, flt := f }) := Lib.hid (by simp [Tr.setT, (List.getElem?_eq_some_iff.1 HX.out).1])
  all_goals have e4 := (R8.tk i _ HIX.out).blk.cell 4 _ rfl
  all_goals have l8 := (R8.tk i _ HIX.out).blk.lt
  all_goals simp only [HSC.out, scP] at e4
  all_goals have S8 := (R8.sc j y HY.out).blk
  all_goals have s5 := S8.cell 5 _ rfl
  all_goals have s2 := S8.cell 2 _ rfl
  all_goals have ls8 := S8.lt
  all_goals have g0 := H8.out.2.2.cell 0 _ rfl
  all_goals have g1 := H8.out.2.2.cell 1 _ rfl
  all_goals have lg8 := H8.out.2.2.lt
  all_goals have F8 := Lib.hid (FN.out w8 _ y R8 HY.out (HLI.out.tks j y HY.out))
  all_goals clear S8 R8 FN
  all_goals go_wp2_with fail
  all_goals
    refine F8.out.mono ?_
    rintro e w9 (⟨hfin, rfl, hR9, hB9⟩ | ⟨u, b, L9, g, cp, hfin, rfl, hR9, hF9, hrow9⟩)
    · have HFIN := Lib.hid hfin
      clear hfin
      have HF : Hid (Gone w own tb (Tr.setT t i { x with done := true, flt := f }) w9) := Lib.hid ((H8.out.2.1.trans (Step.below hB9)).gone hR9)
      clear hR9 hB9 F8
      go_wp2
      go_ret2
      rw [HFIN.out]
      exact goneE_nil HF.out
    · have HFIN := Lib.hid hfin
      clear hfin
      have hg9 : w8.heap.size ≤ g ∧ g < w9.heap.size := hrow9.lt g rfl
      have HS9 : Hid (Step w own w9 own) := Lib.hid (H8.out.2.1.trans ⟨fun _ _ => rfl, hF9⟩)
      have HR9 := Lib.hid hR9
      have HC9 := Lib.hid (row_cells5 hrow9)
      have hs9 := HS9.out.size
      obtain ⟨i0, hi, hz0, hz1, hz2⟩ := info_parts info76
      have HI := Lib.hid hi; have HZ0 := Lib.hid hz0; have HZ1 := Lib.hid hz1; have HZ2 := Lib.hid hz2
      clear hR9 hF9 hrow9 F8 hi hz0 hz1 hz2
      go_wp2_with (at_builtin; refine wpList_append_own_at _ (by rfl) (.tmp 68) (.tmp 70) 46 (by rfl) w.heap.size 76 i0 _ 5 48 Try.underlying46 HI.out HZ0.out HZ1.out HZ2.out (by rfl) (by decide) (.slice none 0 0) 0 [] (by rfl) (World.ownsRow_nil _ _ _ _) ⟨g, 0, none⟩ 1 cp (efC b) (by rfl) (by rfl) HC9.out (efC_one b) (by decide) (by decide) hs9 ?_)
      intro v5 w5 hown5 hG5 _ hat5
      obtain ⟨g5, cp5, rfl⟩ := ownsRow_succ hown5
      have HF := Lib.hid (eff_end (es := [b]) (v1 := .slice none 0 0) HS9.out HR9.out hG5 (by simp [Value.ownBlock]) hown5 rfl (by simp) hat5 (by simp [Value.ownBlock]))
      clear hown5 hG5 hat5
      go_wp2
      go_ret2
      rw [HFIN.out]
      exact ⟨_, _, rfl, HF.out⟩
end
end Go.Proofs.Ytcegmdlmnibheaa
