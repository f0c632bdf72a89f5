/- TreeFirst returns true, of few calls. -/
import Derived.Test.YtcegmdlmnibheaaFirArr
import Derived.Deep.DeepCutAuto
import Derived.Deep.CutBlock
namespace Go.Proofs.Ytcegmdlmnibheaa
open Go.RowKit
set_option linter.unusedVariables false
set_option linter.unusedSimpArgs false
/-- Behind the switch: which scope the call speaks of. -/
def GotCutB (W : World) (n : Int) (s : Value) (W' : World) : Prop := s = .int .i64 n ∧ Below W.heap.size W W'
set_option maxRecDepth 100000 in
set_option maxHeartbeats 64000000 in
theorem law_first_B (n0 : Nat) (hn1 : 1 ≤ n0) (hn2 : n0 ≤ 64) (q : Option Addr) (cp : Nat) (L : List Op) (w : World) (hL : OpsIn w q cp L) (h80 : L.length ≤ 80) :
    Calls Try.prog 6 #[.int .i64 n0, .slice q L.length cp] w (still w (.bool true)) := by
  unfold still
  have HL := Lib.hid hL
  have hcp := hL.cap
  have hle := hL.le
  have hml : maxLen ≤ 9223372036854775807 := by unfold maxLen; omega
  have A13 := Lib.hid awake_any
  unfold still at A13
  have N := Lib.hid (new_ok w n0 hn1 hn2)
  unfold newPost at N
  have hmk := make29
  clear hL
  go_enter Try.func6, Try.ntmps6
  go_wp2_with fail
  refine N.out.mono ?_
  rintro e w1 ⟨rfl, own1, hO1⟩
  have H1 : Ob w w1 own1 (Tr.new n0) (fun _ => Tr.f0) (fun _ => Tr.f0) ((w1.alloc (.cells z402 37)).alloc (.cells z402 37)) := by
    obtain ⟨L1, hR1⟩ := hO1.rep
    refine ⟨(hO1.below (one _ _)).below (one _ _), ?_, ?_, (Arr.new w1 37).below (one _ _), ?_⟩
    · exact hR1.not_own (Nat.le_refl _)
    · exact hR1.not_own (by omega)
    · have := Arr.new (w1.alloc (.cells z402 37)) 37
      simpa using this
  have hs1 := hO1.bel.size
  have H1 := Lib.hid H1
  clear hO1 N
  go_wp2_with fail
  clear hmk
  go_loopw [42] (fun vi wt => ∃ (i : Nat) (own : Own) (t : Tr.T) (fst blk : Nat → Tr.F), i ≤ L.length ∧ vi = .int .i64 i ∧ Ob w w1 own t fst blk wt ∧ Fi t fst blk) (fun vi _ => L.length - (intOf vi).toNat)
  case atStart => exact ⟨0, _, _, _, _, Nat.zero_le _, rfl, H1.out, Fi.new_ n0⟩
  case round =>
    obtain ⟨i, own, t, fst, blk, hin, rfl, hO, hF⟩ := hrel
    have HO := Lib.hid hO
    have HF := Lib.hid hF
    have hzw := hO.ow.bel.size
    clear hO H1 hF
    by_cases hlt : i < L.length
    · obtain ⟨x, hx⟩ : ∃ x, L[i]? = some x := ⟨_, List.getElem?_eq_getElem (by omega)⟩
      obtain ⟨ab, ao, hq, hab, q0, q1, q2, q3, q4⟩ := HL.out.cells hx HO.out.ow.bel
      have hxs := HL.out.wf i x hx
      subst hq
      have habr : ab < wr.heap.size := by omega
      have ii0 : (0 : Int) ≤ (i : Int) := by omega
      have HB := Lib.hid (Blk.new wr #[.int .i64 x.kd, .int .i64 x.n, .bool x.yes, .int .i64 x.f.k, .string x.f.s] 39)
      have TK : Hid (Calls Try.prog 22 #[ptr w.heap.size, .int .i64 x.n] (wr.alloc (.cells #[.int .i64 x.kd, .int .i64 x.n, .bool x.yes, .int .i64 x.f.k, .string x.f.s] 39)) (wasPost (wr.alloc (.cells #[.int .i64 x.kd, .int .i64 x.n, .bool x.yes, .int .i64 x.f.k, .string x.f.s] 39)) (Tr.was t x.n))) := Lib.hid (by
        obtain ⟨L1, hR1⟩ := HO.out.ow.rep
        exact Task_was (hR1.below (one _ _)) HO.out.ow.lim x.n)
      have hwl := was_op HO.out.ow.lim x.n
      unfold wasPost tsV at TK
      have G2 := Lib.hid (got_2 (t := t) (o := x)); have G3 := Lib.hid (got_3 (t := t) (o := x)); have G6 := Lib.hid (got_6 (t := t) (o := x)); have GE := Lib.hid (got_e (t := t) (o := x))
      obtain ⟨u, hu⟩ : ∃ u, u = Tr.was t x.n := ⟨_, rfl⟩
      rw [← hu] at TK hwl G2 G3
      clear hx hu
      go_wp2_with fail
      refine TK.out.mono ?_
      rintro e w2 ⟨p2, c2, cd, rfl, h1, h2, h3⟩
      obtain ⟨m2, hm2⟩ : ∃ m2, m2 = u.op.length := ⟨_, rfl⟩
      rw [← hm2] at h1 h3 hwl ⊢
      have Hm2 := Lib.hid hm2
      have H3 := Lib.hid h3
      have hz2 : wr.heap.size + 1 ≤ w2.heap.size := by have := h3.2.size; simpa using this
      have HB2 := Lib.hid (HB.out.below h3.2 (by simp))
      have HO2 := Lib.hid (HO.out.below ((one wr (.cells #[.int .i64 x.kd, .int .i64 x.n, .bool x.yes, .int .i64 x.f.k, .string x.f.s] 39)).trans (h3.2.mono (by simp))))
      have hw2r : w1.heap.size + 1 < wr.heap.size := HO.out.aB.lt
      have nn0 : ¬ (w1.heap.size + 1 = wr.heap.size) := by omega
      have nn1 : ¬ (w1.heap.size = wr.heap.size) := by omega
      have nn2 : ¬ (wr.heap.size = w1.heap.size + 1) := by omega
      have nn3 : ¬ (wr.heap.size = w1.heap.size) := by omega
      have hnb : own wr.heap.size = none := by
        obtain ⟨L1, hR1⟩ := HO.out.ow.rep
        exact hR1.not_own (Nat.le_refl _)
      clear h3 hm2 TK HB q0 q1 q2 q3 q4 HO
      have b0 := HB2.out.cell 0 _ rfl
      have b1 := HB2.out.cell 1 _ rfl
      have hz2' : wr.heap.size < w2.heap.size := by omega
      obtain ⟨got, hgot⟩ : ∃ got, got = Tr.gotSc t x := ⟨_, rfl⟩
      rw [← hgot] at G2 G3 G6 GE
      have Hgot := Lib.hid hgot
      have HW := Lib.hid (one w2 (.cells #[.int .i64 (scN u.sc), .bool u.done, .bool u.leav, .int .i64 u.flt.k, .string u.flt.s, .slice p2 m2 c2] 52))
      clear hgot
      go_upto_block 2 with fail
      go_cut [13, 14, 15, 16] (fun s13 s14 s15 s16 wx => GotCutB w2 got s13 wx)
      case first =>
       as_aux_lemma =>
        by_cases k2 : x.kd = 2
        · have hg := G2.out k2
          have hb2 : (x.kd == 2) = true := by simp [k2]
          clear k2
          have hsc : Hid (∀ W, Below w2.heap.size w2 W → ∃ L1, Rep W own w.heap.size L1 t) := Lib.hid fun W hW => by
            obtain ⟨L1, hR⟩ := HO2.out.ow.rep
            exact ⟨L1, hR.below hW⟩
          cases hy : Tr.scp t (scN u.sc) with
          | none =>
            rw [hy] at hg
            have SC : Hid (Calls Try.prog 23 #[ptr w.heap.size, .int .i64 (scN u.sc)] (w2.alloc (.cells #[.int .i64 (scN u.sc), .bool u.done, .bool u.leav, .int .i64 u.flt.k, .string u.flt.s, .slice p2 m2 c2] 52)) (still (w2.alloc (.cells #[.int .i64 (scN u.sc), .bool u.done, .bool u.leav, .int .i64 u.flt.k, .string u.flt.s, .slice p2 m2 c2] 52)) (.tuple #[zScope, .int .i64 6]))) := Lib.hid (by
              obtain ⟨L1, hR⟩ := hsc.out _ HW.out
              exact Scope_no hR hy)
            unfold still zScope at SC
            simp only at hg
            subst hg
            clear hsc hy G2 G3 G6 GE H3 HF HL Hm2
            go_wp2_with fail
            refine SC.out.mono ?_
            rintro e w5 ⟨rfl, hb5⟩
            have HB5 := Lib.hid (HW.out.trans (hb5.mono (by simp)))
            have hz5 := HB5.out.size
            clear hb5 SC
            go_wp2
            go_meet
            exact ⟨rfl, HB5.out.alloc hz5 _⟩
          | some y =>
            rw [hy] at hg
            have SC : Hid (Calls Try.prog 23 #[ptr w.heap.size, .int .i64 (scN u.sc)] (w2.alloc (.cells #[.int .i64 (scN u.sc), .bool u.done, .bool u.leav, .int .i64 u.flt.k, .string u.flt.s, .slice p2 m2 c2] 52)) (scopeOk (w2.alloc (.cells #[.int .i64 (scN u.sc), .bool u.done, .bool u.leav, .int .i64 u.flt.k, .string u.flt.s, .slice p2 m2 c2] 52)) y)) := Lib.hid (by
              obtain ⟨L1, hR⟩ := hsc.out _ HW.out
              exact Scope_ok hR HO2.out.ow.lim hy)
            unfold scopeOk ssV at SC
            simp only at hg
            cases hs : y.sup
            · rw [hs] at hg SC
              simp only [Bool.false_eq_true, if_false] at hg
              subst hg
              clear hsc hy G2 G3 G6 GE H3 HF HL Hm2 hs
              go_wp2_with fail
              refine SC.out.mono ?_
              rintro e w5 ⟨p5, c5, rfl, -, -, h5⟩
              have HB5 := Lib.hid (HW.out.trans (h5.2.mono (by simp)))
              have hz5 := HB5.out.size
              have v0 := ((Blk.new w2 #[.int .i64 (scN u.sc), .bool u.done, .bool u.leav, .int .i64 u.flt.k, .string u.flt.s, .slice p2 m2 c2] 52).below h5.2 (by simp)).cell 0 _ rfl
              have hv5 : w2.heap.size < w5.heap.size := by have := h5.2.size; simp at this; omega
              clear h5 SC
              go_wp2
              go_meet
              exact ⟨rfl, HB5.out.alloc hz5 _⟩
            · rw [hs] at hg SC
              simp only [if_true] at hg
              subst hg
              clear hsc hy G2 G3 G6 GE H3 HF HL Hm2 hs
              go_wp2_with fail
              refine SC.out.mono ?_
              rintro e w5 ⟨p5, c5, rfl, -, -, h5⟩
              have HB5 := Lib.hid (HW.out.trans (h5.2.mono (by simp)))
              have hz5 := HB5.out.size
              clear h5 SC
              go_wp2
              go_meet
              exact ⟨rfl, HB5.out.alloc hz5 _⟩
        · have hb2 : (x.kd == 2) = false := by simp [k2]
          by_cases k3 : x.kd = 3
          · have hg := G3.out k3
            have hb3 : (x.kd == 3) = true := by simp [k3]
            clear k3
            cases hl : u.op.getLast? with
            | none =>
              rw [hl] at hg
              have e0 : m2 = 0 := by rw [Hm2.out, List.getLast?_eq_none_iff.1 hl]; rfl
              simp only at hg
              subst hg
              subst e0
              clear hl G2 G3 G6 GE H3 HF HL Hm2
              go_wp2
              go_meet
              exact ⟨rfl, HW.out⟩
            | some s =>
              rw [hl] at hg
              obtain ⟨m3, e3⟩ : ∃ m3 : Nat, m2 = m3 + 1 := by
                cases m2 with
                | zero => have h0 := List.length_eq_zero_iff.1 Hm2.out.symm; rw [h0] at hl; simp at hl
                | succ k => exact ⟨k, rfl⟩
              have hrow := H3.out.1
              rw [Hm2.out] at hrow
              have hx3 : u.op[m3]? = some s := by
                rw [List.getLast?_eq_getElem?, ← Hm2.out, e3] at hl
                simpa using hl
              obtain ⟨g3, c3, e4, -, -, hg3, hc3⟩ := row_get hrow (f := lnC) (sz := 2) (fun s => by cases s <;> rfl) hx3
              have d1 : w2.cell? ⟨g3, m3 * 2 + 1, none⟩ = some (.int .i64 (scN s)) := hc3 1 _ (by cases s <;> rfl)
              cases e4
              simp only at hg
              subst hg
              subst e3
              have e5 : IntKind.i64.wrap (((m3 + 1 : Nat) : Int) - 1) = (m3 : Int) := by rw [IntWalk.i64_in _ (by omega)]; omega
              have e6 : (0 : Int) ≤ (m3 : Int) := by omega
              have e7 : (m3 : Int) < ((m3 + 1 : Nat) : Int) := by omega
              have e8 : (0 : Int) < ((m3 + 1 : Nat) : Int) := by omega
              clear hl G2 G3 G6 GE HF HL hrow hx3 hc3
              go_wp2
              go_meet
              exact ⟨rfl, HW.out⟩
          · have hb3 : (x.kd == 3) = false := by simp [k3]
            by_cases k6 : x.kd = 6
            · have hb6 : (x.kd == 6) = true := by simp [k6]
              have hg := G6.out k6
              clear k6
              subst hg
              clear G2 G3 G6 GE H3 HF HL Hm2
              go_wp2
              go_meet
              exact ⟨rfl, HW.out⟩
            · have hb6 : (x.kd == 6) = false := by simp [k6]
              have hg := GE.out k2 k3 k6
              subst hg
              clear G2 G3 G6 GE H3 HF HL Hm2
              go_wp2
              go_meet
              exact ⟨rfl, HW.out⟩
      case rest =>
        obtain ⟨rfl, hBc⟩ := hcut
        have HBB := Lib.hid (HB2.out.below hBc hz2')
        have HOc := Lib.hid (HO2.out.below hBc)
        have hz3 := hBc.size
        have b0 := HBB.out.cell 0 _ rfl
        have b1 := HBB.out.cell 1 _ rfl
        have b2 := HBB.out.cell 2 _ rfl
        have b3 := HBB.out.cell 3 _ rfl
        have b4 := HBB.out.cell 4 _ rfl
        have TL : Hid (Calls Try.prog 32 #[ptr w.heap.size, opV x] wc (toldPost wc own w.heap.size (Tr.step t x))) := Lib.hid (by
          obtain ⟨L1, hR⟩ := HOc.out.ow.rep
          exact told_any hR HOc.out.ow.lim x (by omega))
        have FS := HF.out.step x
        rw [← Hgot.out] at FS
        have HLm := Lib.hid (HOc.out.ow.lim.step x)
        have hm200 := HOc.out.ow.lim.m
        have hw1c := HOc.out.aF.lt
        have hw2c := HOc.out.aB.lt
        generalize Tr.step t x = r at TL FS HLm
        obtain ⟨t', es, ok⟩ := r
        unfold toldPost opV at TL
        simp only at TL FS HLm
        obtain ⟨n4, hn4⟩ : ∃ n4, n4 = es.length := ⟨_, rfl⟩
        rw [← hn4] at TL
        obtain ⟨hg1, hF2, hT2⟩ := FS
        simp only at hg1 hF2 hT2
        have Hn4 := Lib.hid hn4
        clear hn4 hBc HB2 HO2 HW H3 G2 G3 G6 GE Hm2 HL hxs HF Hgot
        go_wp2_with fail
        refine TL.out.mono ?_
        rintro e w4 ⟨p4, c4, rfl, hG⟩
        rw [Hn4.out] at hG
        obtain ⟨own2, hO4, hrow, hnone, hfr⟩ := HOc.out.gone hG HLm.out
        rw [← Hn4.out] at hrow
        have H4 := Lib.hid hO4
        have hzw4 : w.heap.size ≤ wc.heap.size := by omega
        have hcap4 := hrow.1
        have HBx := HBB.out.fr hfr (by simp [hnb])
        have hz4 := hfr.size
        have x0 := HBx.cell 0 _ rfl
        have x3 := HBx.cell 3 _ rfl
        have x4 := HBx.cell 4 _ rfl
        have xl := HBx.lt
        have hrow2 : w4.ownsRow wc.heap.size 76 5 (.slice p4 n4 c4) es.length (es.flatMap efC) := by rw [← Hn4.out]; exact hrow
        have R4 := Lib.hid hrow2
        clear hG hO4 hrow hrow2 hnone hfr HBx HBB HOc HLm TL b0 b1 b2 b3 b4
        cases ok with
        | false =>
          obtain ⟨gn, hgn⟩ : ∃ gn : Nat, gn = 0 := ⟨_, rfl⟩
          as_aux_lemma =>
            have FR5 : Fr (fun k => k = w1.heap.size ∨ k = w1.heap.size + 1) w4 w4 := Fr.refl (fun k => k = w1.heap.size ∨ k = w1.heap.size + 1) w4
            have H5 : Hid (Ob w w1 own2 t' fst blk w4) := Lib.hid (by
              obtain ⟨⟨L4, hR4⟩, hl4, hge4, hbl4⟩ := H4.out.ow
              refine ⟨⟨⟨L4, hR4.fr FR5 ?_⟩, hl4, hge4, hbl4.trans (FR5.below (fun k hk => ?_) hbl4.size)⟩, H4.out.nF, H4.out.nB, ?_, ?_⟩
              · rintro k (rfl | rfl)
                · exact H4.out.nF
                · exact H4.out.nB
              · rcases hk with rfl | rfl <;> omega
              · exact H4.out.aF
              · exact H4.out.aB)
            have R5 := Lib.hid (owns_fr R4.out FR5 (by intro k hk hS; have h1 := (R4.out.lt k hk).1; have h2 := H4.out.aF.lt; rcases hS with rfl | rfl <;> omega))
            have eF : Tr.nfst fst got false x.f = fst := nfst_no _ _ _
            have eB : Tr.nblk blk got false x.kd x.f = blk := nblk_no _ _ _ _
            rw [eF, eB] at hF2 hT2
            have HF5 := Lib.hid hF2
            have HT5 := Lib.hid hT2
            have z0 := H4.out.aF.fz
            have z1 := H4.out.aB.fz
            have y0 := z0 (gn * 2)
            have y1 := z0 (gn * 2 + 1)
            have y2 := z1 (gn * 2)
            have y3 := z1 (gn * 2 + 1)
            have lF := H4.out.aF.lt
            have lB := H4.out.aB.lt
            clear z0 z1 FR5 hF2 hT2 R4 eF eB hg1
            go_wp2_with fail

            go_loopw [134] (fun vj wt => ∃ j : Nat, j ≤ n4 ∧ vj = .int .i64 j ∧ Below w4.heap.size w4 wt) (fun vj _ => n4 - (intOf vj).toNat)
            case atStart => exact ⟨0, Nat.zero_le _, rfl, by simpa using Below.refl _ _⟩
            case round =>
              obtain ⟨j, hjn, rfl, hBj⟩ := hrel
              have HBj := Lib.hid hBj
              have hzj : w4.heap.size ≤ wr.heap.size := by have := hBj.size; simpa using this
              have HOj := Lib.hid (H5.out.below (by simpa using hBj))
              clear hBj
              by_cases hjl : j < n4
              · obtain ⟨e, he⟩ : ∃ e, es[j]? = some e := ⟨_, List.getElem?_eq_getElem (by have := Hn4.out; omega)⟩
                have HROW := R5.out.1
                have hrj := owns_fr R5.out (Fr.of_below (S := fun _ => False) (by simpa using HBj.out)) (fun _ _ h => h)
                obtain ⟨g4, c, hv, hcl, hcm, hg4, hc4⟩ := row_get hrj (f := efC) (sz := 5) (fun _ => rfl) he
                rw [← Hn4.out] at hv hcl
                have hn4m : n4 ≤ 9223372036854775807 := by omega
                cases hv
                have c0 : wr.cell? ⟨g4, j * 5, none⟩ = some (.int .i64 e.k) := hc4 0 _ rfl
                have c1 := hc4 1 _ rfl
                have c2 := hc4 2 _ rfl
                have c3 := hc4 3 _ rfl
                have c4' := hc4 4 _ rfl
                have jj0 : (0 : Int) ≤ (j : Int) := by omega
                have jj1 : (j : Int) < (n4 : Int) := by omega
                have HE := Lib.hid (HT5.out e (List.mem_of_getElem? he))
                clear hrj hc4 he
                by_cases he3 : e.k = 3
                · obtain ⟨m, hm, hm1, hm2, hef⟩ := HE.out he3
                  have hb3 : (e.k != 3) = false := by simp [he3]
                  have f0 := HOj.out.aF.c0 m (by omega)
                  have f1 := HOj.out.aF.c1 m (by omega)
                  have g0 := HOj.out.aB.c0 m (by omega)
                  have g1 := HOj.out.aB.c1 m (by omega)
                  have lF := HOj.out.aF.lt
                  have lB := HOj.out.aB.lt
                  have mm0 : (0 : Int) ≤ (m : Int) := by omega
                  have mm1 : (m : Int) < 201 := by omega
                  have mm2 : ¬ ((m : Int) < 1) := by omega
                  have mm3 : ¬ ((200 : Int) < (m : Int)) := by omega
                  rw [hm] at c2
                  unfold Tr.want at hef
                  clear he3 hm
                  obtain ⟨F5, hF5⟩ : ∃ F, F = fst m := ⟨_, rfl⟩
                  obtain ⟨B5, hB5⟩ : ∃ F, F = blk m := ⟨_, rfl⟩
                  rw [← hF5] at f0 f1 hef
                  rw [← hB5] at g0 g1 hef
                  clear hF5 hB5
                  by_cases d1 : F5.k = 0
                  · have hd1 : (F5.k == 0) = true := by simp [d1]
                    by_cases d2 : B5.k = 2
                    · have hd2 : (B5.k == 2) = true := by simp [d2]
                      rw [if_pos ⟨d1, d2⟩] at hef
                      rw [hef] at c3 c4'
                      clear d1 d2 hef
                      clear HROW HE HOj
                      go_wp2_with fail
                      go_roundw
                      case rel => exact ⟨j + 1, by omega, by go_num, by (repeat (first | with_reducible exact HBj.out | with_reducible refine Below.setCell ?_ (by first | omega | (simp; done) | (simp; omega)) _ | with_reducible refine Below.alloc ?_ (by first | omega | (simp; done) | (simp; omega)) _))⟩
                      case measure => simp [intOf]; omega
                    · have hd2 : (B5.k == 2) = false := by simp [d2]
                      rw [if_neg (by rintro ⟨-, h⟩; exact d2 h)] at hef
                      rw [hef] at c3 c4'
                      clear d1 d2 hef
                      clear HROW HE HOj
                      go_wp2_with fail
                      go_roundw
                      case rel => exact ⟨j + 1, by omega, by go_num, by (repeat (first | with_reducible exact HBj.out | with_reducible refine Below.setCell ?_ (by first | omega | (simp; done) | (simp; omega)) _ | with_reducible refine Below.alloc ?_ (by first | omega | (simp; done) | (simp; omega)) _))⟩
                      case measure => simp [intOf]; omega
                  · have hd1 : (F5.k == 0) = false := by simp [d1]
                    rw [if_neg (by rintro ⟨h, -⟩; exact d1 h)] at hef
                    rw [hef] at c3 c4'
                    clear d1 hef
                    clear HROW HE HOj
                    go_wp2_with fail
                    go_roundw
                    case rel => exact ⟨j + 1, by omega, by go_num, by (repeat (first | with_reducible exact HBj.out | with_reducible refine Below.setCell ?_ (by first | omega | (simp; done) | (simp; omega)) _ | with_reducible refine Below.alloc ?_ (by first | omega | (simp; done) | (simp; omega)) _))⟩
                    case measure => simp [intOf]; omega
                · have hb3 : (e.k != 3) = true := by simp [he3]
                  clear he3
                  clear HROW HE HOj
                  go_wp2_with fail
                  go_roundw
                  case rel => exact ⟨j + 1, by omega, by go_num, by (repeat (first | with_reducible exact HBj.out | with_reducible refine Below.setCell ?_ (by first | omega | (simp; done) | (simp; omega)) _ | with_reducible refine Below.alloc ?_ (by first | omega | (simp; done) | (simp; omega)) _))⟩
                  case measure => simp [intOf]; omega
              · obtain rfl : j = n4 := by omega
                clear R5
                go_wp2_with fail
                go_roundw
                case rel => exact ⟨i + 1, own2, t', fst, blk, by omega, by go_num, HOj.out, HF5.out⟩
                case measure => simp [intOf]; omega
        | true =>
          by_cases hk3 : x.kd = 3
          · have hb3 : (x.kd == 3) = true := by simp [hk3]
            obtain ⟨gn, hgn⟩ : ∃ gn : Nat, got = (gn : Int) := ⟨got.toNat, by have := hg1 rfl (.inl hk3); omega⟩
            subst hgn
            have hgn1 := hg1 rfl (.inl hk3)
            have hgn2 : gn ≤ 200 := by omega
            have hgp : (0 : Int) < (gn : Int) := by omega
            have gg0 : (0 : Int) ≤ (gn : Int) := by omega
            have gg1 : (gn : Int) < 201 := by omega
            by_cases k1 : x.f.k = 1
            · have hk1 : (x.f.k == 1) = true := by simp [k1]
              by_cases f0 : (fst gn).k = 0
              · have hf0 : ((fst gn).k == 0) = true := by simp [f0]
                as_aux_lemma =>
                  have FR5 : Fr (fun k => k = w1.heap.size ∨ k = w1.heap.size + 1) w4 ((((w4.setCell ⟨w1.heap.size + 1, gn * 2, none⟩ (.int .i64 x.f.k)).setCell ⟨w1.heap.size + 1, gn * 2 + 1, none⟩ (.string x.f.s)).setCell ⟨w1.heap.size, gn * 2, none⟩ (.int .i64 x.f.k)).setCell ⟨w1.heap.size, gn * 2 + 1, none⟩ (.string x.f.s)) := ((((Fr.refl (fun k => k = w1.heap.size ∨ k = w1.heap.size + 1) w4).set (.inl (.inr rfl)) _ _).set (.inl (.inr rfl)) _ _).set (.inl (.inl rfl)) _ _).set (.inl (.inl rfl)) _ _
                  have H5 : Hid (Ob w w1 own2 t' (Tr.upd fst gn x.f) (Tr.upd blk gn x.f) ((((w4.setCell ⟨w1.heap.size + 1, gn * 2, none⟩ (.int .i64 x.f.k)).setCell ⟨w1.heap.size + 1, gn * 2 + 1, none⟩ (.string x.f.s)).setCell ⟨w1.heap.size, gn * 2, none⟩ (.int .i64 x.f.k)).setCell ⟨w1.heap.size, gn * 2 + 1, none⟩ (.string x.f.s))) := Lib.hid (by
                    obtain ⟨⟨L4, hR4⟩, hl4, hge4, hbl4⟩ := H4.out.ow
                    refine ⟨⟨⟨L4, hR4.fr FR5 ?_⟩, hl4, hge4, hbl4.trans (FR5.below (fun k hk => ?_) hbl4.size)⟩, H4.out.nF, H4.out.nB, ?_, ?_⟩
                    · rintro k (rfl | rfl)
                      · exact H4.out.nF
                      · exact H4.out.nB
                    · rcases hk with rfl | rfl <;> omega
                    · exact ((((H4.out.aF).fr (S := fun k => k = w1.heap.size + 1) (((Fr.refl (fun k => k = w1.heap.size + 1) w4).set (.inl rfl) _ _).set (.inl rfl) _ _) (by omega))).set hgn2 x.f)
                    · exact ((((H4.out.aB).set hgn2 x.f)).fr (S := fun k => k = w1.heap.size) (((Fr.refl (fun k => k = w1.heap.size) ((w4.setCell ⟨w1.heap.size + 1, gn * 2, none⟩ (.int .i64 x.f.k)).setCell ⟨w1.heap.size + 1, gn * 2 + 1, none⟩ (.string x.f.s))).set (.inl rfl) _ _).set (.inl rfl) _ _) (by omega)))
                  have R5 := Lib.hid (owns_fr R4.out FR5 (by intro k hk hS; have h1 := (R4.out.lt k hk).1; have h2 := H4.out.aF.lt; rcases hS with rfl | rfl <;> omega))
                  have eF : Tr.nfst fst (gn : Int) true x.f = Tr.upd fst gn x.f := by unfold Tr.nfst; rw [Int.toNat_natCast, if_pos ⟨rfl, hgp, k1, f0⟩]
                  have eB : Tr.nblk blk (gn : Int) true x.kd x.f = Tr.upd blk gn x.f := by unfold Tr.nblk; rw [if_pos ⟨rfl, hk3⟩, Int.toNat_natCast]
                  rw [eF, eB] at hF2 hT2
                  have HF5 := Lib.hid hF2
                  have HT5 := Lib.hid hT2
                  have z0 := H4.out.aF.fz
                  have z1 := H4.out.aB.fz
                  have y0 := z0 (gn * 2)
                  have y1 := z0 (gn * 2 + 1)
                  have y2 := z1 (gn * 2)
                  have y3 := z1 (gn * 2 + 1)
                  have lF := H4.out.aF.lt
                  have lB := H4.out.aB.lt
                  have F0 := H4.out.aF.c0 gn hgn2
                  have F1 := H4.out.aF.c1 gn hgn2
                  have A0 := H4.out.aB.c0 gn hgn2
                  have A1 := H4.out.aB.c1 gn hgn2
                  clear z0 z1 FR5 hF2 hT2 R4 eF eB hg1
                  clear hk3 k1 f0 
                  go_wp2_with fail

                  go_loopw [134] (fun vj wt => ∃ j : Nat, j ≤ n4 ∧ vj = .int .i64 j ∧ Below w4.heap.size ((((w4.setCell ⟨w1.heap.size + 1, gn * 2, none⟩ (.int .i64 x.f.k)).setCell ⟨w1.heap.size + 1, gn * 2 + 1, none⟩ (.string x.f.s)).setCell ⟨w1.heap.size, gn * 2, none⟩ (.int .i64 x.f.k)).setCell ⟨w1.heap.size, gn * 2 + 1, none⟩ (.string x.f.s)) wt) (fun vj _ => n4 - (intOf vj).toNat)
                  case atStart => exact ⟨0, Nat.zero_le _, rfl, by simpa using Below.refl _ _⟩
                  case round =>
                    obtain ⟨j, hjn, rfl, hBj⟩ := hrel
                    have HBj := Lib.hid hBj
                    have hzj : w4.heap.size ≤ wr.heap.size := by have := hBj.size; simpa using this
                    have HOj := Lib.hid (H5.out.below (by simpa using hBj))
                    clear hBj
                    by_cases hjl : j < n4
                    · obtain ⟨e, he⟩ : ∃ e, es[j]? = some e := ⟨_, List.getElem?_eq_getElem (by have := Hn4.out; omega)⟩
                      have HROW := R5.out.1
                      have hrj := owns_fr R5.out (Fr.of_below (S := fun _ => False) (by simpa using HBj.out)) (fun _ _ h => h)
                      obtain ⟨g4, c, hv, hcl, hcm, hg4, hc4⟩ := row_get hrj (f := efC) (sz := 5) (fun _ => rfl) he
                      rw [← Hn4.out] at hv hcl
                      have hn4m : n4 ≤ 9223372036854775807 := by omega
                      cases hv
                      have c0 : wr.cell? ⟨g4, j * 5, none⟩ = some (.int .i64 e.k) := hc4 0 _ rfl
                      have c1 := hc4 1 _ rfl
                      have c2 := hc4 2 _ rfl
                      have c3 := hc4 3 _ rfl
                      have c4' := hc4 4 _ rfl
                      have jj0 : (0 : Int) ≤ (j : Int) := by omega
                      have jj1 : (j : Int) < (n4 : Int) := by omega
                      have HE := Lib.hid (HT5.out e (List.mem_of_getElem? he))
                      clear hrj hc4 he
                      by_cases he3 : e.k = 3
                      · obtain ⟨m, hm, hm1, hm2, hef⟩ := HE.out he3
                        have hb3 : (e.k != 3) = false := by simp [he3]
                        have f0 := HOj.out.aF.c0 m (by omega)
                        have f1 := HOj.out.aF.c1 m (by omega)
                        have g0 := HOj.out.aB.c0 m (by omega)
                        have g1 := HOj.out.aB.c1 m (by omega)
                        have lF := HOj.out.aF.lt
                        have lB := HOj.out.aB.lt
                        have mm0 : (0 : Int) ≤ (m : Int) := by omega
                        have mm1 : (m : Int) < 201 := by omega
                        have mm2 : ¬ ((m : Int) < 1) := by omega
                        have mm3 : ¬ ((200 : Int) < (m : Int)) := by omega
                        rw [hm] at c2
                        unfold Tr.want at hef
                        clear he3 hm
                        obtain ⟨F5, hF5⟩ : ∃ F, F = (Tr.upd fst gn x.f) m := ⟨_, rfl⟩
                        obtain ⟨B5, hB5⟩ : ∃ F, F = (Tr.upd blk gn x.f) m := ⟨_, rfl⟩
                        rw [← hF5] at f0 f1 hef
                        rw [← hB5] at g0 g1 hef
                        clear hF5 hB5
                        by_cases d1 : F5.k = 0
                        · have hd1 : (F5.k == 0) = true := by simp [d1]
                          by_cases d2 : B5.k = 2
                          · have hd2 : (B5.k == 2) = true := by simp [d2]
                            rw [if_pos ⟨d1, d2⟩] at hef
                            rw [hef] at c3 c4'
                            clear d1 d2 hef
                            clear HROW HE HOj
                            go_wp2_with fail
                            go_roundw
                            case rel => exact ⟨j + 1, by omega, by go_num, by (repeat (first | with_reducible exact HBj.out | with_reducible refine Below.setCell ?_ (by first | omega | (simp; done) | (simp; omega)) _ | with_reducible refine Below.alloc ?_ (by first | omega | (simp; done) | (simp; omega)) _))⟩
                            case measure => simp [intOf]; omega
                          · have hd2 : (B5.k == 2) = false := by simp [d2]
                            rw [if_neg (by rintro ⟨-, h⟩; exact d2 h)] at hef
                            rw [hef] at c3 c4'
                            clear d1 d2 hef
                            clear HROW HE HOj
                            go_wp2_with fail
                            go_roundw
                            case rel => exact ⟨j + 1, by omega, by go_num, by (repeat (first | with_reducible exact HBj.out | with_reducible refine Below.setCell ?_ (by first | omega | (simp; done) | (simp; omega)) _ | with_reducible refine Below.alloc ?_ (by first | omega | (simp; done) | (simp; omega)) _))⟩
                            case measure => simp [intOf]; omega
                        · have hd1 : (F5.k == 0) = false := by simp [d1]
                          rw [if_neg (by rintro ⟨h, -⟩; exact d1 h)] at hef
                          rw [hef] at c3 c4'
                          clear d1 hef
                          clear HROW HE HOj
                          go_wp2_with fail
                          go_roundw
                          case rel => exact ⟨j + 1, by omega, by go_num, by (repeat (first | with_reducible exact HBj.out | with_reducible refine Below.setCell ?_ (by first | omega | (simp; done) | (simp; omega)) _ | with_reducible refine Below.alloc ?_ (by first | omega | (simp; done) | (simp; omega)) _))⟩
                          case measure => simp [intOf]; omega
                      · have hb3 : (e.k != 3) = true := by simp [he3]
                        clear he3
                        clear HROW HE HOj
                        go_wp2_with fail
                        go_roundw
                        case rel => exact ⟨j + 1, by omega, by go_num, by (repeat (first | with_reducible exact HBj.out | with_reducible refine Below.setCell ?_ (by first | omega | (simp; done) | (simp; omega)) _ | with_reducible refine Below.alloc ?_ (by first | omega | (simp; done) | (simp; omega)) _))⟩
                        case measure => simp [intOf]; omega
                    · obtain rfl : j = n4 := by omega
                      clear R5
                      go_wp2_with fail
                      go_roundw
                      case rel => exact ⟨i + 1, own2, t', (Tr.upd fst gn x.f), (Tr.upd blk gn x.f), by omega, by go_num, HOj.out, HF5.out⟩
                      case measure => simp [intOf]; omega
              · have hf0 : ((fst gn).k == 0) = false := by simp [f0]
                as_aux_lemma =>
                  have FR5 : Fr (fun k => k = w1.heap.size ∨ k = w1.heap.size + 1) w4 ((w4.setCell ⟨w1.heap.size + 1, gn * 2, none⟩ (.int .i64 x.f.k)).setCell ⟨w1.heap.size + 1, gn * 2 + 1, none⟩ (.string x.f.s)) := ((Fr.refl (fun k => k = w1.heap.size ∨ k = w1.heap.size + 1) w4).set (.inl (.inr rfl)) _ _).set (.inl (.inr rfl)) _ _
                  have H5 : Hid (Ob w w1 own2 t' fst (Tr.upd blk gn x.f) ((w4.setCell ⟨w1.heap.size + 1, gn * 2, none⟩ (.int .i64 x.f.k)).setCell ⟨w1.heap.size + 1, gn * 2 + 1, none⟩ (.string x.f.s))) := Lib.hid (by
                    obtain ⟨⟨L4, hR4⟩, hl4, hge4, hbl4⟩ := H4.out.ow
                    refine ⟨⟨⟨L4, hR4.fr FR5 ?_⟩, hl4, hge4, hbl4.trans (FR5.below (fun k hk => ?_) hbl4.size)⟩, H4.out.nF, H4.out.nB, ?_, ?_⟩
                    · rintro k (rfl | rfl)
                      · exact H4.out.nF
                      · exact H4.out.nB
                    · rcases hk with rfl | rfl <;> omega
                    · exact ((H4.out.aF).fr (S := fun k => k = w1.heap.size + 1) (((Fr.refl (fun k => k = w1.heap.size + 1) w4).set (.inl rfl) _ _).set (.inl rfl) _ _) (by omega))
                    · exact ((H4.out.aB).set hgn2 x.f))
                  have R5 := Lib.hid (owns_fr R4.out FR5 (by intro k hk hS; have h1 := (R4.out.lt k hk).1; have h2 := H4.out.aF.lt; rcases hS with rfl | rfl <;> omega))
                  have eF : Tr.nfst fst (gn : Int) true x.f = fst := by unfold Tr.nfst; rw [if_neg]; rintro ⟨-, h1, h2, h3⟩; exact f0 (by simpa using h3)
                  have eB : Tr.nblk blk (gn : Int) true x.kd x.f = Tr.upd blk gn x.f := by unfold Tr.nblk; rw [if_pos ⟨rfl, hk3⟩, Int.toNat_natCast]
                  rw [eF, eB] at hF2 hT2
                  have HF5 := Lib.hid hF2
                  have HT5 := Lib.hid hT2
                  have z0 := H4.out.aF.fz
                  have z1 := H4.out.aB.fz
                  have y0 := z0 (gn * 2)
                  have y1 := z0 (gn * 2 + 1)
                  have y2 := z1 (gn * 2)
                  have y3 := z1 (gn * 2 + 1)
                  have lF := H4.out.aF.lt
                  have lB := H4.out.aB.lt
                  have F0 := H4.out.aF.c0 gn hgn2
                  have F1 := H4.out.aF.c1 gn hgn2
                  have A0 := H4.out.aB.c0 gn hgn2
                  have A1 := H4.out.aB.c1 gn hgn2
                  clear z0 z1 FR5 hF2 hT2 R4 eF eB hg1
                  clear hk3 k1 f0 
                  go_wp2_with fail

                  go_loopw [134] (fun vj wt => ∃ j : Nat, j ≤ n4 ∧ vj = .int .i64 j ∧ Below w4.heap.size ((w4.setCell ⟨w1.heap.size + 1, gn * 2, none⟩ (.int .i64 x.f.k)).setCell ⟨w1.heap.size + 1, gn * 2 + 1, none⟩ (.string x.f.s)) wt) (fun vj _ => n4 - (intOf vj).toNat)
                  case atStart => exact ⟨0, Nat.zero_le _, rfl, by simpa using Below.refl _ _⟩
                  case round =>
                    obtain ⟨j, hjn, rfl, hBj⟩ := hrel
                    have HBj := Lib.hid hBj
                    have hzj : w4.heap.size ≤ wr.heap.size := by have := hBj.size; simpa using this
                    have HOj := Lib.hid (H5.out.below (by simpa using hBj))
                    clear hBj
                    by_cases hjl : j < n4
                    · obtain ⟨e, he⟩ : ∃ e, es[j]? = some e := ⟨_, List.getElem?_eq_getElem (by have := Hn4.out; omega)⟩
                      have HROW := R5.out.1
                      have hrj := owns_fr R5.out (Fr.of_below (S := fun _ => False) (by simpa using HBj.out)) (fun _ _ h => h)
                      obtain ⟨g4, c, hv, hcl, hcm, hg4, hc4⟩ := row_get hrj (f := efC) (sz := 5) (fun _ => rfl) he
                      rw [← Hn4.out] at hv hcl
                      have hn4m : n4 ≤ 9223372036854775807 := by omega
                      cases hv
                      have c0 : wr.cell? ⟨g4, j * 5, none⟩ = some (.int .i64 e.k) := hc4 0 _ rfl
                      have c1 := hc4 1 _ rfl
                      have c2 := hc4 2 _ rfl
                      have c3 := hc4 3 _ rfl
                      have c4' := hc4 4 _ rfl
                      have jj0 : (0 : Int) ≤ (j : Int) := by omega
                      have jj1 : (j : Int) < (n4 : Int) := by omega
                      have HE := Lib.hid (HT5.out e (List.mem_of_getElem? he))
                      clear hrj hc4 he
                      by_cases he3 : e.k = 3
                      · obtain ⟨m, hm, hm1, hm2, hef⟩ := HE.out he3
                        have hb3 : (e.k != 3) = false := by simp [he3]
                        have f0 := HOj.out.aF.c0 m (by omega)
                        have f1 := HOj.out.aF.c1 m (by omega)
                        have g0 := HOj.out.aB.c0 m (by omega)
                        have g1 := HOj.out.aB.c1 m (by omega)
                        have lF := HOj.out.aF.lt
                        have lB := HOj.out.aB.lt
                        have mm0 : (0 : Int) ≤ (m : Int) := by omega
                        have mm1 : (m : Int) < 201 := by omega
                        have mm2 : ¬ ((m : Int) < 1) := by omega
                        have mm3 : ¬ ((200 : Int) < (m : Int)) := by omega
                        rw [hm] at c2
                        unfold Tr.want at hef
                        clear he3 hm
                        obtain ⟨F5, hF5⟩ : ∃ F, F = fst m := ⟨_, rfl⟩
                        obtain ⟨B5, hB5⟩ : ∃ F, F = (Tr.upd blk gn x.f) m := ⟨_, rfl⟩
                        rw [← hF5] at f0 f1 hef
                        rw [← hB5] at g0 g1 hef
                        clear hF5 hB5
                        by_cases d1 : F5.k = 0
                        · have hd1 : (F5.k == 0) = true := by simp [d1]
                          by_cases d2 : B5.k = 2
                          · have hd2 : (B5.k == 2) = true := by simp [d2]
                            rw [if_pos ⟨d1, d2⟩] at hef
                            rw [hef] at c3 c4'
                            clear d1 d2 hef
                            clear HROW HE HOj
                            go_wp2_with fail
                            go_roundw
                            case rel => exact ⟨j + 1, by omega, by go_num, by (repeat (first | with_reducible exact HBj.out | with_reducible refine Below.setCell ?_ (by first | omega | (simp; done) | (simp; omega)) _ | with_reducible refine Below.alloc ?_ (by first | omega | (simp; done) | (simp; omega)) _))⟩
                            case measure => simp [intOf]; omega
                          · have hd2 : (B5.k == 2) = false := by simp [d2]
                            rw [if_neg (by rintro ⟨-, h⟩; exact d2 h)] at hef
                            rw [hef] at c3 c4'
                            clear d1 d2 hef
                            clear HROW HE HOj
                            go_wp2_with fail
                            go_roundw
                            case rel => exact ⟨j + 1, by omega, by go_num, by (repeat (first | with_reducible exact HBj.out | with_reducible refine Below.setCell ?_ (by first | omega | (simp; done) | (simp; omega)) _ | with_reducible refine Below.alloc ?_ (by first | omega | (simp; done) | (simp; omega)) _))⟩
                            case measure => simp [intOf]; omega
                        · have hd1 : (F5.k == 0) = false := by simp [d1]
                          rw [if_neg (by rintro ⟨h, -⟩; exact d1 h)] at hef
                          rw [hef] at c3 c4'
                          clear d1 hef
                          clear HROW HE HOj
                          go_wp2_with fail
                          go_roundw
                          case rel => exact ⟨j + 1, by omega, by go_num, by (repeat (first | with_reducible exact HBj.out | with_reducible refine Below.setCell ?_ (by first | omega | (simp; done) | (simp; omega)) _ | with_reducible refine Below.alloc ?_ (by first | omega | (simp; done) | (simp; omega)) _))⟩
                          case measure => simp [intOf]; omega
                      · have hb3 : (e.k != 3) = true := by simp [he3]
                        clear he3
                        clear HROW HE HOj
                        go_wp2_with fail
                        go_roundw
                        case rel => exact ⟨j + 1, by omega, by go_num, by (repeat (first | with_reducible exact HBj.out | with_reducible refine Below.setCell ?_ (by first | omega | (simp; done) | (simp; omega)) _ | with_reducible refine Below.alloc ?_ (by first | omega | (simp; done) | (simp; omega)) _))⟩
                        case measure => simp [intOf]; omega
                    · obtain rfl : j = n4 := by omega
                      clear R5
                      go_wp2_with fail
                      go_roundw
                      case rel => exact ⟨i + 1, own2, t', fst, (Tr.upd blk gn x.f), by omega, by go_num, HOj.out, HF5.out⟩
                      case measure => simp [intOf]; omega
            · have hk1 : (x.f.k == 1) = false := by simp [k1]
              as_aux_lemma =>
                have FR5 : Fr (fun k => k = w1.heap.size ∨ k = w1.heap.size + 1) w4 ((w4.setCell ⟨w1.heap.size + 1, gn * 2, none⟩ (.int .i64 x.f.k)).setCell ⟨w1.heap.size + 1, gn * 2 + 1, none⟩ (.string x.f.s)) := ((Fr.refl (fun k => k = w1.heap.size ∨ k = w1.heap.size + 1) w4).set (.inl (.inr rfl)) _ _).set (.inl (.inr rfl)) _ _
                have H5 : Hid (Ob w w1 own2 t' fst (Tr.upd blk gn x.f) ((w4.setCell ⟨w1.heap.size + 1, gn * 2, none⟩ (.int .i64 x.f.k)).setCell ⟨w1.heap.size + 1, gn * 2 + 1, none⟩ (.string x.f.s))) := Lib.hid (by
                  obtain ⟨⟨L4, hR4⟩, hl4, hge4, hbl4⟩ := H4.out.ow
                  refine ⟨⟨⟨L4, hR4.fr FR5 ?_⟩, hl4, hge4, hbl4.trans (FR5.below (fun k hk => ?_) hbl4.size)⟩, H4.out.nF, H4.out.nB, ?_, ?_⟩
                  · rintro k (rfl | rfl)
                    · exact H4.out.nF
                    · exact H4.out.nB
                  · rcases hk with rfl | rfl <;> omega
                  · exact ((H4.out.aF).fr (S := fun k => k = w1.heap.size + 1) (((Fr.refl (fun k => k = w1.heap.size + 1) w4).set (.inl rfl) _ _).set (.inl rfl) _ _) (by omega))
                  · exact ((H4.out.aB).set hgn2 x.f))
                have R5 := Lib.hid (owns_fr R4.out FR5 (by intro k hk hS; have h1 := (R4.out.lt k hk).1; have h2 := H4.out.aF.lt; rcases hS with rfl | rfl <;> omega))
                have eF : Tr.nfst fst (gn : Int) true x.f = fst := by unfold Tr.nfst; rw [if_neg]; rintro ⟨-, h1, h2, h3⟩; exact k1 h2
                have eB : Tr.nblk blk (gn : Int) true x.kd x.f = Tr.upd blk gn x.f := by unfold Tr.nblk; rw [if_pos ⟨rfl, hk3⟩, Int.toNat_natCast]
                rw [eF, eB] at hF2 hT2
                have HF5 := Lib.hid hF2
                have HT5 := Lib.hid hT2
                have z0 := H4.out.aF.fz
                have z1 := H4.out.aB.fz
                have y0 := z0 (gn * 2)
                have y1 := z0 (gn * 2 + 1)
                have y2 := z1 (gn * 2)
                have y3 := z1 (gn * 2 + 1)
                have lF := H4.out.aF.lt
                have lB := H4.out.aB.lt
                have F0 := H4.out.aF.c0 gn hgn2
                have F1 := H4.out.aF.c1 gn hgn2
                have A0 := H4.out.aB.c0 gn hgn2
                have A1 := H4.out.aB.c1 gn hgn2
                clear z0 z1 FR5 hF2 hT2 R4 eF eB hg1
                clear hk3 k1 
                go_wp2_with fail

                go_loopw [134] (fun vj wt => ∃ j : Nat, j ≤ n4 ∧ vj = .int .i64 j ∧ Below w4.heap.size ((w4.setCell ⟨w1.heap.size + 1, gn * 2, none⟩ (.int .i64 x.f.k)).setCell ⟨w1.heap.size + 1, gn * 2 + 1, none⟩ (.string x.f.s)) wt) (fun vj _ => n4 - (intOf vj).toNat)
                case atStart => exact ⟨0, Nat.zero_le _, rfl, by simpa using Below.refl _ _⟩
                case round =>
                  obtain ⟨j, hjn, rfl, hBj⟩ := hrel
                  have HBj := Lib.hid hBj
                  have hzj : w4.heap.size ≤ wr.heap.size := by have := hBj.size; simpa using this
                  have HOj := Lib.hid (H5.out.below (by simpa using hBj))
                  clear hBj
                  by_cases hjl : j < n4
                  · obtain ⟨e, he⟩ : ∃ e, es[j]? = some e := ⟨_, List.getElem?_eq_getElem (by have := Hn4.out; omega)⟩
                    have HROW := R5.out.1
                    have hrj := owns_fr R5.out (Fr.of_below (S := fun _ => False) (by simpa using HBj.out)) (fun _ _ h => h)
                    obtain ⟨g4, c, hv, hcl, hcm, hg4, hc4⟩ := row_get hrj (f := efC) (sz := 5) (fun _ => rfl) he
                    rw [← Hn4.out] at hv hcl
                    have hn4m : n4 ≤ 9223372036854775807 := by omega
                    cases hv
                    have c0 : wr.cell? ⟨g4, j * 5, none⟩ = some (.int .i64 e.k) := hc4 0 _ rfl
                    have c1 := hc4 1 _ rfl
                    have c2 := hc4 2 _ rfl
                    have c3 := hc4 3 _ rfl
                    have c4' := hc4 4 _ rfl
                    have jj0 : (0 : Int) ≤ (j : Int) := by omega
                    have jj1 : (j : Int) < (n4 : Int) := by omega
                    have HE := Lib.hid (HT5.out e (List.mem_of_getElem? he))
                    clear hrj hc4 he
                    by_cases he3 : e.k = 3
                    · obtain ⟨m, hm, hm1, hm2, hef⟩ := HE.out he3
                      have hb3 : (e.k != 3) = false := by simp [he3]
                      have f0 := HOj.out.aF.c0 m (by omega)
                      have f1 := HOj.out.aF.c1 m (by omega)
                      have g0 := HOj.out.aB.c0 m (by omega)
                      have g1 := HOj.out.aB.c1 m (by omega)
                      have lF := HOj.out.aF.lt
                      have lB := HOj.out.aB.lt
                      have mm0 : (0 : Int) ≤ (m : Int) := by omega
                      have mm1 : (m : Int) < 201 := by omega
                      have mm2 : ¬ ((m : Int) < 1) := by omega
                      have mm3 : ¬ ((200 : Int) < (m : Int)) := by omega
                      rw [hm] at c2
                      unfold Tr.want at hef
                      clear he3 hm
                      obtain ⟨F5, hF5⟩ : ∃ F, F = fst m := ⟨_, rfl⟩
                      obtain ⟨B5, hB5⟩ : ∃ F, F = (Tr.upd blk gn x.f) m := ⟨_, rfl⟩
                      rw [← hF5] at f0 f1 hef
                      rw [← hB5] at g0 g1 hef
                      clear hF5 hB5
                      by_cases d1 : F5.k = 0
                      · have hd1 : (F5.k == 0) = true := by simp [d1]
                        by_cases d2 : B5.k = 2
                        · have hd2 : (B5.k == 2) = true := by simp [d2]
                          rw [if_pos ⟨d1, d2⟩] at hef
                          rw [hef] at c3 c4'
                          clear d1 d2 hef
                          clear HROW HE HOj
                          go_wp2_with fail
                          go_roundw
                          case rel => exact ⟨j + 1, by omega, by go_num, by (repeat (first | with_reducible exact HBj.out | with_reducible refine Below.setCell ?_ (by first | omega | (simp; done) | (simp; omega)) _ | with_reducible refine Below.alloc ?_ (by first | omega | (simp; done) | (simp; omega)) _))⟩
                          case measure => simp [intOf]; omega
                        · have hd2 : (B5.k == 2) = false := by simp [d2]
                          rw [if_neg (by rintro ⟨-, h⟩; exact d2 h)] at hef
                          rw [hef] at c3 c4'
                          clear d1 d2 hef
                          clear HROW HE HOj
                          go_wp2_with fail
                          go_roundw
                          case rel => exact ⟨j + 1, by omega, by go_num, by (repeat (first | with_reducible exact HBj.out | with_reducible refine Below.setCell ?_ (by first | omega | (simp; done) | (simp; omega)) _ | with_reducible refine Below.alloc ?_ (by first | omega | (simp; done) | (simp; omega)) _))⟩
                          case measure => simp [intOf]; omega
                      · have hd1 : (F5.k == 0) = false := by simp [d1]
                        rw [if_neg (by rintro ⟨h, -⟩; exact d1 h)] at hef
                        rw [hef] at c3 c4'
                        clear d1 hef
                        clear HROW HE HOj
                        go_wp2_with fail
                        go_roundw
                        case rel => exact ⟨j + 1, by omega, by go_num, by (repeat (first | with_reducible exact HBj.out | with_reducible refine Below.setCell ?_ (by first | omega | (simp; done) | (simp; omega)) _ | with_reducible refine Below.alloc ?_ (by first | omega | (simp; done) | (simp; omega)) _))⟩
                        case measure => simp [intOf]; omega
                    · have hb3 : (e.k != 3) = true := by simp [he3]
                      clear he3
                      clear HROW HE HOj
                      go_wp2_with fail
                      go_roundw
                      case rel => exact ⟨j + 1, by omega, by go_num, by (repeat (first | with_reducible exact HBj.out | with_reducible refine Below.setCell ?_ (by first | omega | (simp; done) | (simp; omega)) _ | with_reducible refine Below.alloc ?_ (by first | omega | (simp; done) | (simp; omega)) _))⟩
                      case measure => simp [intOf]; omega
                  · obtain rfl : j = n4 := by omega
                    clear R5
                    go_wp2_with fail
                    go_roundw
                    case rel => exact ⟨i + 1, own2, t', fst, (Tr.upd blk gn x.f), by omega, by go_num, HOj.out, HF5.out⟩
                    case measure => simp [intOf]; omega
          · have hb3 : (x.kd == 3) = false := by simp [hk3]
            by_cases hgp : 0 < got
            · by_cases k1 : x.f.k = 1
              · have hk1 : (x.f.k == 1) = true := by simp [k1]
                obtain ⟨gn, hgn⟩ : ∃ gn : Nat, got = (gn : Int) := ⟨got.toNat, by omega⟩
                subst hgn
                have hgn1 := hg1 rfl (.inr ⟨hgp, k1⟩)
                have hgn2 : gn ≤ 200 := by omega
                have gg0 : (0 : Int) ≤ (gn : Int) := by omega
                have gg1 : (gn : Int) < 201 := by omega
                by_cases f0 : (fst gn).k = 0
                · have hf0 : ((fst gn).k == 0) = true := by simp [f0]
                  as_aux_lemma =>
                    have FR5 : Fr (fun k => k = w1.heap.size ∨ k = w1.heap.size + 1) w4 ((w4.setCell ⟨w1.heap.size, gn * 2, none⟩ (.int .i64 x.f.k)).setCell ⟨w1.heap.size, gn * 2 + 1, none⟩ (.string x.f.s)) := ((Fr.refl (fun k => k = w1.heap.size ∨ k = w1.heap.size + 1) w4).set (.inl (.inl rfl)) _ _).set (.inl (.inl rfl)) _ _
                    have H5 : Hid (Ob w w1 own2 t' (Tr.upd fst gn x.f) blk ((w4.setCell ⟨w1.heap.size, gn * 2, none⟩ (.int .i64 x.f.k)).setCell ⟨w1.heap.size, gn * 2 + 1, none⟩ (.string x.f.s))) := Lib.hid (by
                      obtain ⟨⟨L4, hR4⟩, hl4, hge4, hbl4⟩ := H4.out.ow
                      refine ⟨⟨⟨L4, hR4.fr FR5 ?_⟩, hl4, hge4, hbl4.trans (FR5.below (fun k hk => ?_) hbl4.size)⟩, H4.out.nF, H4.out.nB, ?_, ?_⟩
                      · rintro k (rfl | rfl)
                        · exact H4.out.nF
                        · exact H4.out.nB
                      · rcases hk with rfl | rfl <;> omega
                      · exact ((H4.out.aF).set hgn2 x.f)
                      · exact ((H4.out.aB).fr (S := fun k => k = w1.heap.size) (((Fr.refl (fun k => k = w1.heap.size) w4).set (.inl rfl) _ _).set (.inl rfl) _ _) (by omega)))
                    have R5 := Lib.hid (owns_fr R4.out FR5 (by intro k hk hS; have h1 := (R4.out.lt k hk).1; have h2 := H4.out.aF.lt; rcases hS with rfl | rfl <;> omega))
                    have eF : Tr.nfst fst (gn : Int) true x.f = Tr.upd fst gn x.f := by unfold Tr.nfst; rw [Int.toNat_natCast, if_pos ⟨rfl, hgp, k1, f0⟩]
                    have eB : Tr.nblk blk (gn : Int) true x.kd x.f = blk := nblk_kd _ _ _ _ hk3
                    rw [eF, eB] at hF2 hT2
                    have HF5 := Lib.hid hF2
                    have HT5 := Lib.hid hT2
                    have z0 := H4.out.aF.fz
                    have z1 := H4.out.aB.fz
                    have y0 := z0 (gn * 2)
                    have y1 := z0 (gn * 2 + 1)
                    have y2 := z1 (gn * 2)
                    have y3 := z1 (gn * 2 + 1)
                    have lF := H4.out.aF.lt
                    have lB := H4.out.aB.lt
                    have F0 := H4.out.aF.c0 gn hgn2
                    have F1 := H4.out.aF.c1 gn hgn2
                    have A0 := H4.out.aB.c0 gn hgn2
                    have A1 := H4.out.aB.c1 gn hgn2
                    clear z0 z1 FR5 hF2 hT2 R4 eF eB hg1
                    clear hk3 k1 f0 
                    go_wp2_with fail

                    go_loopw [134] (fun vj wt => ∃ j : Nat, j ≤ n4 ∧ vj = .int .i64 j ∧ Below w4.heap.size ((w4.setCell ⟨w1.heap.size, gn * 2, none⟩ (.int .i64 x.f.k)).setCell ⟨w1.heap.size, gn * 2 + 1, none⟩ (.string x.f.s)) wt) (fun vj _ => n4 - (intOf vj).toNat)
                    case atStart => exact ⟨0, Nat.zero_le _, rfl, by simpa using Below.refl _ _⟩
                    case round =>
                      obtain ⟨j, hjn, rfl, hBj⟩ := hrel
                      have HBj := Lib.hid hBj
                      have hzj : w4.heap.size ≤ wr.heap.size := by have := hBj.size; simpa using this
                      have HOj := Lib.hid (H5.out.below (by simpa using hBj))
                      clear hBj
                      by_cases hjl : j < n4
                      · obtain ⟨e, he⟩ : ∃ e, es[j]? = some e := ⟨_, List.getElem?_eq_getElem (by have := Hn4.out; omega)⟩
                        have HROW := R5.out.1
                        have hrj := owns_fr R5.out (Fr.of_below (S := fun _ => False) (by simpa using HBj.out)) (fun _ _ h => h)
                        obtain ⟨g4, c, hv, hcl, hcm, hg4, hc4⟩ := row_get hrj (f := efC) (sz := 5) (fun _ => rfl) he
                        rw [← Hn4.out] at hv hcl
                        have hn4m : n4 ≤ 9223372036854775807 := by omega
                        cases hv
                        have c0 : wr.cell? ⟨g4, j * 5, none⟩ = some (.int .i64 e.k) := hc4 0 _ rfl
                        have c1 := hc4 1 _ rfl
                        have c2 := hc4 2 _ rfl
                        have c3 := hc4 3 _ rfl
                        have c4' := hc4 4 _ rfl
                        have jj0 : (0 : Int) ≤ (j : Int) := by omega
                        have jj1 : (j : Int) < (n4 : Int) := by omega
                        have HE := Lib.hid (HT5.out e (List.mem_of_getElem? he))
                        clear hrj hc4 he
                        by_cases he3 : e.k = 3
                        · obtain ⟨m, hm, hm1, hm2, hef⟩ := HE.out he3
                          have hb3 : (e.k != 3) = false := by simp [he3]
                          have f0 := HOj.out.aF.c0 m (by omega)
                          have f1 := HOj.out.aF.c1 m (by omega)
                          have g0 := HOj.out.aB.c0 m (by omega)
                          have g1 := HOj.out.aB.c1 m (by omega)
                          have lF := HOj.out.aF.lt
                          have lB := HOj.out.aB.lt
                          have mm0 : (0 : Int) ≤ (m : Int) := by omega
                          have mm1 : (m : Int) < 201 := by omega
                          have mm2 : ¬ ((m : Int) < 1) := by omega
                          have mm3 : ¬ ((200 : Int) < (m : Int)) := by omega
                          rw [hm] at c2
                          unfold Tr.want at hef
                          clear he3 hm
                          obtain ⟨F5, hF5⟩ : ∃ F, F = (Tr.upd fst gn x.f) m := ⟨_, rfl⟩
                          obtain ⟨B5, hB5⟩ : ∃ F, F = blk m := ⟨_, rfl⟩
                          rw [← hF5] at f0 f1 hef
                          rw [← hB5] at g0 g1 hef
                          clear hF5 hB5
                          by_cases d1 : F5.k = 0
                          · have hd1 : (F5.k == 0) = true := by simp [d1]
                            by_cases d2 : B5.k = 2
                            · have hd2 : (B5.k == 2) = true := by simp [d2]
                              rw [if_pos ⟨d1, d2⟩] at hef
                              rw [hef] at c3 c4'
                              clear d1 d2 hef
                              clear HROW HE HOj
                              go_wp2_with fail
                              go_roundw
                              case rel => exact ⟨j + 1, by omega, by go_num, by (repeat (first | with_reducible exact HBj.out | with_reducible refine Below.setCell ?_ (by first | omega | (simp; done) | (simp; omega)) _ | with_reducible refine Below.alloc ?_ (by first | omega | (simp; done) | (simp; omega)) _))⟩
                              case measure => simp [intOf]; omega
                            · have hd2 : (B5.k == 2) = false := by simp [d2]
                              rw [if_neg (by rintro ⟨-, h⟩; exact d2 h)] at hef
                              rw [hef] at c3 c4'
                              clear d1 d2 hef
                              clear HROW HE HOj
                              go_wp2_with fail
                              go_roundw
                              case rel => exact ⟨j + 1, by omega, by go_num, by (repeat (first | with_reducible exact HBj.out | with_reducible refine Below.setCell ?_ (by first | omega | (simp; done) | (simp; omega)) _ | with_reducible refine Below.alloc ?_ (by first | omega | (simp; done) | (simp; omega)) _))⟩
                              case measure => simp [intOf]; omega
                          · have hd1 : (F5.k == 0) = false := by simp [d1]
                            rw [if_neg (by rintro ⟨h, -⟩; exact d1 h)] at hef
                            rw [hef] at c3 c4'
                            clear d1 hef
                            clear HROW HE HOj
                            go_wp2_with fail
                            go_roundw
                            case rel => exact ⟨j + 1, by omega, by go_num, by (repeat (first | with_reducible exact HBj.out | with_reducible refine Below.setCell ?_ (by first | omega | (simp; done) | (simp; omega)) _ | with_reducible refine Below.alloc ?_ (by first | omega | (simp; done) | (simp; omega)) _))⟩
                            case measure => simp [intOf]; omega
                        · have hb3 : (e.k != 3) = true := by simp [he3]
                          clear he3
                          clear HROW HE HOj
                          go_wp2_with fail
                          go_roundw
                          case rel => exact ⟨j + 1, by omega, by go_num, by (repeat (first | with_reducible exact HBj.out | with_reducible refine Below.setCell ?_ (by first | omega | (simp; done) | (simp; omega)) _ | with_reducible refine Below.alloc ?_ (by first | omega | (simp; done) | (simp; omega)) _))⟩
                          case measure => simp [intOf]; omega
                      · obtain rfl : j = n4 := by omega
                        clear R5
                        go_wp2_with fail
                        go_roundw
                        case rel => exact ⟨i + 1, own2, t', (Tr.upd fst gn x.f), blk, by omega, by go_num, HOj.out, HF5.out⟩
                        case measure => simp [intOf]; omega
                · have hf0 : ((fst gn).k == 0) = false := by simp [f0]
                  as_aux_lemma =>
                    have FR5 : Fr (fun k => k = w1.heap.size ∨ k = w1.heap.size + 1) w4 w4 := Fr.refl (fun k => k = w1.heap.size ∨ k = w1.heap.size + 1) w4
                    have H5 : Hid (Ob w w1 own2 t' fst blk w4) := Lib.hid (by
                      obtain ⟨⟨L4, hR4⟩, hl4, hge4, hbl4⟩ := H4.out.ow
                      refine ⟨⟨⟨L4, hR4.fr FR5 ?_⟩, hl4, hge4, hbl4.trans (FR5.below (fun k hk => ?_) hbl4.size)⟩, H4.out.nF, H4.out.nB, ?_, ?_⟩
                      · rintro k (rfl | rfl)
                        · exact H4.out.nF
                        · exact H4.out.nB
                      · rcases hk with rfl | rfl <;> omega
                      · exact H4.out.aF
                      · exact H4.out.aB)
                    have R5 := Lib.hid (owns_fr R4.out FR5 (by intro k hk hS; have h1 := (R4.out.lt k hk).1; have h2 := H4.out.aF.lt; rcases hS with rfl | rfl <;> omega))
                    have eF : Tr.nfst fst (gn : Int) true x.f = fst := by unfold Tr.nfst; rw [if_neg]; rintro ⟨-, h1, h2, h3⟩; exact f0 (by simpa using h3)
                    have eB : Tr.nblk blk (gn : Int) true x.kd x.f = blk := nblk_kd _ _ _ _ hk3
                    rw [eF, eB] at hF2 hT2
                    have HF5 := Lib.hid hF2
                    have HT5 := Lib.hid hT2
                    have z0 := H4.out.aF.fz
                    have z1 := H4.out.aB.fz
                    have y0 := z0 (gn * 2)
                    have y1 := z0 (gn * 2 + 1)
                    have y2 := z1 (gn * 2)
                    have y3 := z1 (gn * 2 + 1)
                    have lF := H4.out.aF.lt
                    have lB := H4.out.aB.lt
                    have F0 := H4.out.aF.c0 gn hgn2
                    have F1 := H4.out.aF.c1 gn hgn2
                    have A0 := H4.out.aB.c0 gn hgn2
                    have A1 := H4.out.aB.c1 gn hgn2
                    clear z0 z1 FR5 hF2 hT2 R4 eF eB hg1
                    clear hk3 k1 f0 
                    go_wp2_with fail

                    go_loopw [134] (fun vj wt => ∃ j : Nat, j ≤ n4 ∧ vj = .int .i64 j ∧ Below w4.heap.size w4 wt) (fun vj _ => n4 - (intOf vj).toNat)
                    case atStart => exact ⟨0, Nat.zero_le _, rfl, by simpa using Below.refl _ _⟩
                    case round =>
                      obtain ⟨j, hjn, rfl, hBj⟩ := hrel
                      have HBj := Lib.hid hBj
                      have hzj : w4.heap.size ≤ wr.heap.size := by have := hBj.size; simpa using this
                      have HOj := Lib.hid (H5.out.below (by simpa using hBj))
                      clear hBj
                      by_cases hjl : j < n4
                      · obtain ⟨e, he⟩ : ∃ e, es[j]? = some e := ⟨_, List.getElem?_eq_getElem (by have := Hn4.out; omega)⟩
                        have HROW := R5.out.1
                        have hrj := owns_fr R5.out (Fr.of_below (S := fun _ => False) (by simpa using HBj.out)) (fun _ _ h => h)
                        obtain ⟨g4, c, hv, hcl, hcm, hg4, hc4⟩ := row_get hrj (f := efC) (sz := 5) (fun _ => rfl) he
                        rw [← Hn4.out] at hv hcl
                        have hn4m : n4 ≤ 9223372036854775807 := by omega
                        cases hv
                        have c0 : wr.cell? ⟨g4, j * 5, none⟩ = some (.int .i64 e.k) := hc4 0 _ rfl
                        have c1 := hc4 1 _ rfl
                        have c2 := hc4 2 _ rfl
                        have c3 := hc4 3 _ rfl
                        have c4' := hc4 4 _ rfl
                        have jj0 : (0 : Int) ≤ (j : Int) := by omega
                        have jj1 : (j : Int) < (n4 : Int) := by omega
                        have HE := Lib.hid (HT5.out e (List.mem_of_getElem? he))
                        clear hrj hc4 he
                        by_cases he3 : e.k = 3
                        · obtain ⟨m, hm, hm1, hm2, hef⟩ := HE.out he3
                          have hb3 : (e.k != 3) = false := by simp [he3]
                          have f0 := HOj.out.aF.c0 m (by omega)
                          have f1 := HOj.out.aF.c1 m (by omega)
                          have g0 := HOj.out.aB.c0 m (by omega)
                          have g1 := HOj.out.aB.c1 m (by omega)
                          have lF := HOj.out.aF.lt
                          have lB := HOj.out.aB.lt
                          have mm0 : (0 : Int) ≤ (m : Int) := by omega
                          have mm1 : (m : Int) < 201 := by omega
                          have mm2 : ¬ ((m : Int) < 1) := by omega
                          have mm3 : ¬ ((200 : Int) < (m : Int)) := by omega
                          rw [hm] at c2
                          unfold Tr.want at hef
                          clear he3 hm
                          obtain ⟨F5, hF5⟩ : ∃ F, F = fst m := ⟨_, rfl⟩
                          obtain ⟨B5, hB5⟩ : ∃ F, F = blk m := ⟨_, rfl⟩
                          rw [← hF5] at f0 f1 hef
                          rw [← hB5] at g0 g1 hef
                          clear hF5 hB5
                          by_cases d1 : F5.k = 0
                          · have hd1 : (F5.k == 0) = true := by simp [d1]
                            by_cases d2 : B5.k = 2
                            · have hd2 : (B5.k == 2) = true := by simp [d2]
                              rw [if_pos ⟨d1, d2⟩] at hef
                              rw [hef] at c3 c4'
                              clear d1 d2 hef
                              clear HROW HE HOj
                              go_wp2_with fail
                              go_roundw
                              case rel => exact ⟨j + 1, by omega, by go_num, by (repeat (first | with_reducible exact HBj.out | with_reducible refine Below.setCell ?_ (by first | omega | (simp; done) | (simp; omega)) _ | with_reducible refine Below.alloc ?_ (by first | omega | (simp; done) | (simp; omega)) _))⟩
                              case measure => simp [intOf]; omega
                            · have hd2 : (B5.k == 2) = false := by simp [d2]
                              rw [if_neg (by rintro ⟨-, h⟩; exact d2 h)] at hef
                              rw [hef] at c3 c4'
                              clear d1 d2 hef
                              clear HROW HE HOj
                              go_wp2_with fail
                              go_roundw
                              case rel => exact ⟨j + 1, by omega, by go_num, by (repeat (first | with_reducible exact HBj.out | with_reducible refine Below.setCell ?_ (by first | omega | (simp; done) | (simp; omega)) _ | with_reducible refine Below.alloc ?_ (by first | omega | (simp; done) | (simp; omega)) _))⟩
                              case measure => simp [intOf]; omega
                          · have hd1 : (F5.k == 0) = false := by simp [d1]
                            rw [if_neg (by rintro ⟨h, -⟩; exact d1 h)] at hef
                            rw [hef] at c3 c4'
                            clear d1 hef
                            clear HROW HE HOj
                            go_wp2_with fail
                            go_roundw
                            case rel => exact ⟨j + 1, by omega, by go_num, by (repeat (first | with_reducible exact HBj.out | with_reducible refine Below.setCell ?_ (by first | omega | (simp; done) | (simp; omega)) _ | with_reducible refine Below.alloc ?_ (by first | omega | (simp; done) | (simp; omega)) _))⟩
                            case measure => simp [intOf]; omega
                        · have hb3 : (e.k != 3) = true := by simp [he3]
                          clear he3
                          clear HROW HE HOj
                          go_wp2_with fail
                          go_roundw
                          case rel => exact ⟨j + 1, by omega, by go_num, by (repeat (first | with_reducible exact HBj.out | with_reducible refine Below.setCell ?_ (by first | omega | (simp; done) | (simp; omega)) _ | with_reducible refine Below.alloc ?_ (by first | omega | (simp; done) | (simp; omega)) _))⟩
                          case measure => simp [intOf]; omega
                      · obtain rfl : j = n4 := by omega
                        clear R5
                        go_wp2_with fail
                        go_roundw
                        case rel => exact ⟨i + 1, own2, t', fst, blk, by omega, by go_num, HOj.out, HF5.out⟩
                        case measure => simp [intOf]; omega
              · have hk1 : (x.f.k == 1) = false := by simp [k1]
                obtain ⟨gn, hgn⟩ : ∃ gn : Nat, gn = 0 := ⟨_, rfl⟩
                as_aux_lemma =>
                  have FR5 : Fr (fun k => k = w1.heap.size ∨ k = w1.heap.size + 1) w4 w4 := Fr.refl (fun k => k = w1.heap.size ∨ k = w1.heap.size + 1) w4
                  have H5 : Hid (Ob w w1 own2 t' fst blk w4) := Lib.hid (by
                    obtain ⟨⟨L4, hR4⟩, hl4, hge4, hbl4⟩ := H4.out.ow
                    refine ⟨⟨⟨L4, hR4.fr FR5 ?_⟩, hl4, hge4, hbl4.trans (FR5.below (fun k hk => ?_) hbl4.size)⟩, H4.out.nF, H4.out.nB, ?_, ?_⟩
                    · rintro k (rfl | rfl)
                      · exact H4.out.nF
                      · exact H4.out.nB
                    · rcases hk with rfl | rfl <;> omega
                    · exact H4.out.aF
                    · exact H4.out.aB)
                  have R5 := Lib.hid (owns_fr R4.out FR5 (by intro k hk hS; have h1 := (R4.out.lt k hk).1; have h2 := H4.out.aF.lt; rcases hS with rfl | rfl <;> omega))
                  have eF : Tr.nfst fst got true x.f = fst := by unfold Tr.nfst; rw [if_neg]; rintro ⟨-, h1, h2, h3⟩; exact k1 h2
                  have eB : Tr.nblk blk got true x.kd x.f = blk := nblk_kd _ _ _ _ hk3
                  rw [eF, eB] at hF2 hT2
                  have HF5 := Lib.hid hF2
                  have HT5 := Lib.hid hT2
                  have z0 := H4.out.aF.fz
                  have z1 := H4.out.aB.fz
                  have y0 := z0 (gn * 2)
                  have y1 := z0 (gn * 2 + 1)
                  have y2 := z1 (gn * 2)
                  have y3 := z1 (gn * 2 + 1)
                  have lF := H4.out.aF.lt
                  have lB := H4.out.aB.lt
                  clear z0 z1 FR5 hF2 hT2 R4 eF eB hg1
                  clear hk3 k1 
                  go_wp2_with fail

                  go_loopw [134] (fun vj wt => ∃ j : Nat, j ≤ n4 ∧ vj = .int .i64 j ∧ Below w4.heap.size w4 wt) (fun vj _ => n4 - (intOf vj).toNat)
                  case atStart => exact ⟨0, Nat.zero_le _, rfl, by simpa using Below.refl _ _⟩
                  case round =>
                    obtain ⟨j, hjn, rfl, hBj⟩ := hrel
                    have HBj := Lib.hid hBj
                    have hzj : w4.heap.size ≤ wr.heap.size := by have := hBj.size; simpa using this
                    have HOj := Lib.hid (H5.out.below (by simpa using hBj))
                    clear hBj
                    by_cases hjl : j < n4
                    · obtain ⟨e, he⟩ : ∃ e, es[j]? = some e := ⟨_, List.getElem?_eq_getElem (by have := Hn4.out; omega)⟩
                      have HROW := R5.out.1
                      have hrj := owns_fr R5.out (Fr.of_below (S := fun _ => False) (by simpa using HBj.out)) (fun _ _ h => h)
                      obtain ⟨g4, c, hv, hcl, hcm, hg4, hc4⟩ := row_get hrj (f := efC) (sz := 5) (fun _ => rfl) he
                      rw [← Hn4.out] at hv hcl
                      have hn4m : n4 ≤ 9223372036854775807 := by omega
                      cases hv
                      have c0 : wr.cell? ⟨g4, j * 5, none⟩ = some (.int .i64 e.k) := hc4 0 _ rfl
                      have c1 := hc4 1 _ rfl
                      have c2 := hc4 2 _ rfl
                      have c3 := hc4 3 _ rfl
                      have c4' := hc4 4 _ rfl
                      have jj0 : (0 : Int) ≤ (j : Int) := by omega
                      have jj1 : (j : Int) < (n4 : Int) := by omega
                      have HE := Lib.hid (HT5.out e (List.mem_of_getElem? he))
                      clear hrj hc4 he
                      by_cases he3 : e.k = 3
                      · obtain ⟨m, hm, hm1, hm2, hef⟩ := HE.out he3
                        have hb3 : (e.k != 3) = false := by simp [he3]
                        have f0 := HOj.out.aF.c0 m (by omega)
                        have f1 := HOj.out.aF.c1 m (by omega)
                        have g0 := HOj.out.aB.c0 m (by omega)
                        have g1 := HOj.out.aB.c1 m (by omega)
                        have lF := HOj.out.aF.lt
                        have lB := HOj.out.aB.lt
                        have mm0 : (0 : Int) ≤ (m : Int) := by omega
                        have mm1 : (m : Int) < 201 := by omega
                        have mm2 : ¬ ((m : Int) < 1) := by omega
                        have mm3 : ¬ ((200 : Int) < (m : Int)) := by omega
                        rw [hm] at c2
                        unfold Tr.want at hef
                        clear he3 hm
                        obtain ⟨F5, hF5⟩ : ∃ F, F = fst m := ⟨_, rfl⟩
                        obtain ⟨B5, hB5⟩ : ∃ F, F = blk m := ⟨_, rfl⟩
                        rw [← hF5] at f0 f1 hef
                        rw [← hB5] at g0 g1 hef
                        clear hF5 hB5
                        by_cases d1 : F5.k = 0
                        · have hd1 : (F5.k == 0) = true := by simp [d1]
                          by_cases d2 : B5.k = 2
                          · have hd2 : (B5.k == 2) = true := by simp [d2]
                            rw [if_pos ⟨d1, d2⟩] at hef
                            rw [hef] at c3 c4'
                            clear d1 d2 hef
                            clear HROW HE HOj
                            go_wp2_with fail
                            go_roundw
                            case rel => exact ⟨j + 1, by omega, by go_num, by (repeat (first | with_reducible exact HBj.out | with_reducible refine Below.setCell ?_ (by first | omega | (simp; done) | (simp; omega)) _ | with_reducible refine Below.alloc ?_ (by first | omega | (simp; done) | (simp; omega)) _))⟩
                            case measure => simp [intOf]; omega
                          · have hd2 : (B5.k == 2) = false := by simp [d2]
                            rw [if_neg (by rintro ⟨-, h⟩; exact d2 h)] at hef
                            rw [hef] at c3 c4'
                            clear d1 d2 hef
                            clear HROW HE HOj
                            go_wp2_with fail
                            go_roundw
                            case rel => exact ⟨j + 1, by omega, by go_num, by (repeat (first | with_reducible exact HBj.out | with_reducible refine Below.setCell ?_ (by first | omega | (simp; done) | (simp; omega)) _ | with_reducible refine Below.alloc ?_ (by first | omega | (simp; done) | (simp; omega)) _))⟩
                            case measure => simp [intOf]; omega
                        · have hd1 : (F5.k == 0) = false := by simp [d1]
                          rw [if_neg (by rintro ⟨h, -⟩; exact d1 h)] at hef
                          rw [hef] at c3 c4'
                          clear d1 hef
                          clear HROW HE HOj
                          go_wp2_with fail
                          go_roundw
                          case rel => exact ⟨j + 1, by omega, by go_num, by (repeat (first | with_reducible exact HBj.out | with_reducible refine Below.setCell ?_ (by first | omega | (simp; done) | (simp; omega)) _ | with_reducible refine Below.alloc ?_ (by first | omega | (simp; done) | (simp; omega)) _))⟩
                          case measure => simp [intOf]; omega
                      · have hb3 : (e.k != 3) = true := by simp [he3]
                        clear he3
                        clear HROW HE HOj
                        go_wp2_with fail
                        go_roundw
                        case rel => exact ⟨j + 1, by omega, by go_num, by (repeat (first | with_reducible exact HBj.out | with_reducible refine Below.setCell ?_ (by first | omega | (simp; done) | (simp; omega)) _ | with_reducible refine Below.alloc ?_ (by first | omega | (simp; done) | (simp; omega)) _))⟩
                        case measure => simp [intOf]; omega
                    · obtain rfl : j = n4 := by omega
                      clear R5
                      go_wp2_with fail
                      go_roundw
                      case rel => exact ⟨i + 1, own2, t', fst, blk, by omega, by go_num, HOj.out, HF5.out⟩
                      case measure => simp [intOf]; omega
            · obtain ⟨gn, hgn⟩ : ∃ gn : Nat, gn = 0 := ⟨_, rfl⟩
              as_aux_lemma =>
                have FR5 : Fr (fun k => k = w1.heap.size ∨ k = w1.heap.size + 1) w4 w4 := Fr.refl (fun k => k = w1.heap.size ∨ k = w1.heap.size + 1) w4
                have H5 : Hid (Ob w w1 own2 t' fst blk w4) := Lib.hid (by
                  obtain ⟨⟨L4, hR4⟩, hl4, hge4, hbl4⟩ := H4.out.ow
                  refine ⟨⟨⟨L4, hR4.fr FR5 ?_⟩, hl4, hge4, hbl4.trans (FR5.below (fun k hk => ?_) hbl4.size)⟩, H4.out.nF, H4.out.nB, ?_, ?_⟩
                  · rintro k (rfl | rfl)
                    · exact H4.out.nF
                    · exact H4.out.nB
                  · rcases hk with rfl | rfl <;> omega
                  · exact H4.out.aF
                  · exact H4.out.aB)
                have R5 := Lib.hid (owns_fr R4.out FR5 (by intro k hk hS; have h1 := (R4.out.lt k hk).1; have h2 := H4.out.aF.lt; rcases hS with rfl | rfl <;> omega))
                have eF : Tr.nfst fst got true x.f = fst := by unfold Tr.nfst; rw [if_neg]; rintro ⟨-, h1, h2, h3⟩; exact hgp h1
                have eB : Tr.nblk blk got true x.kd x.f = blk := nblk_kd _ _ _ _ hk3
                rw [eF, eB] at hF2 hT2
                have HF5 := Lib.hid hF2
                have HT5 := Lib.hid hT2
                have z0 := H4.out.aF.fz
                have z1 := H4.out.aB.fz
                have y0 := z0 (gn * 2)
                have y1 := z0 (gn * 2 + 1)
                have y2 := z1 (gn * 2)
                have y3 := z1 (gn * 2 + 1)
                have lF := H4.out.aF.lt
                have lB := H4.out.aB.lt
                clear z0 z1 FR5 hF2 hT2 R4 eF eB hg1
                clear hk3 
                go_wp2_with fail

                go_loopw [134] (fun vj wt => ∃ j : Nat, j ≤ n4 ∧ vj = .int .i64 j ∧ Below w4.heap.size w4 wt) (fun vj _ => n4 - (intOf vj).toNat)
                case atStart => exact ⟨0, Nat.zero_le _, rfl, by simpa using Below.refl _ _⟩
                case round =>
                  obtain ⟨j, hjn, rfl, hBj⟩ := hrel
                  have HBj := Lib.hid hBj
                  have hzj : w4.heap.size ≤ wr.heap.size := by have := hBj.size; simpa using this
                  have HOj := Lib.hid (H5.out.below (by simpa using hBj))
                  clear hBj
                  by_cases hjl : j < n4
                  · obtain ⟨e, he⟩ : ∃ e, es[j]? = some e := ⟨_, List.getElem?_eq_getElem (by have := Hn4.out; omega)⟩
                    have HROW := R5.out.1
                    have hrj := owns_fr R5.out (Fr.of_below (S := fun _ => False) (by simpa using HBj.out)) (fun _ _ h => h)
                    obtain ⟨g4, c, hv, hcl, hcm, hg4, hc4⟩ := row_get hrj (f := efC) (sz := 5) (fun _ => rfl) he
                    rw [← Hn4.out] at hv hcl
                    have hn4m : n4 ≤ 9223372036854775807 := by omega
                    cases hv
                    have c0 : wr.cell? ⟨g4, j * 5, none⟩ = some (.int .i64 e.k) := hc4 0 _ rfl
                    have c1 := hc4 1 _ rfl
                    have c2 := hc4 2 _ rfl
                    have c3 := hc4 3 _ rfl
                    have c4' := hc4 4 _ rfl
                    have jj0 : (0 : Int) ≤ (j : Int) := by omega
                    have jj1 : (j : Int) < (n4 : Int) := by omega
                    have HE := Lib.hid (HT5.out e (List.mem_of_getElem? he))
                    clear hrj hc4 he
                    by_cases he3 : e.k = 3
                    · obtain ⟨m, hm, hm1, hm2, hef⟩ := HE.out he3
                      have hb3 : (e.k != 3) = false := by simp [he3]
                      have f0 := HOj.out.aF.c0 m (by omega)
                      have f1 := HOj.out.aF.c1 m (by omega)
                      have g0 := HOj.out.aB.c0 m (by omega)
                      have g1 := HOj.out.aB.c1 m (by omega)
                      have lF := HOj.out.aF.lt
                      have lB := HOj.out.aB.lt
                      have mm0 : (0 : Int) ≤ (m : Int) := by omega
                      have mm1 : (m : Int) < 201 := by omega
                      have mm2 : ¬ ((m : Int) < 1) := by omega
                      have mm3 : ¬ ((200 : Int) < (m : Int)) := by omega
                      rw [hm] at c2
                      unfold Tr.want at hef
                      clear he3 hm
                      obtain ⟨F5, hF5⟩ : ∃ F, F = fst m := ⟨_, rfl⟩
                      obtain ⟨B5, hB5⟩ : ∃ F, F = blk m := ⟨_, rfl⟩
                      rw [← hF5] at f0 f1 hef
                      rw [← hB5] at g0 g1 hef
                      clear hF5 hB5
                      by_cases d1 : F5.k = 0
                      · have hd1 : (F5.k == 0) = true := by simp [d1]
                        by_cases d2 : B5.k = 2
                        · have hd2 : (B5.k == 2) = true := by simp [d2]
                          rw [if_pos ⟨d1, d2⟩] at hef
                          rw [hef] at c3 c4'
                          clear d1 d2 hef
                          clear HROW HE HOj
                          go_wp2_with fail
                          go_roundw
                          case rel => exact ⟨j + 1, by omega, by go_num, by (repeat (first | with_reducible exact HBj.out | with_reducible refine Below.setCell ?_ (by first | omega | (simp; done) | (simp; omega)) _ | with_reducible refine Below.alloc ?_ (by first | omega | (simp; done) | (simp; omega)) _))⟩
                          case measure => simp [intOf]; omega
                        · have hd2 : (B5.k == 2) = false := by simp [d2]
                          rw [if_neg (by rintro ⟨-, h⟩; exact d2 h)] at hef
                          rw [hef] at c3 c4'
                          clear d1 d2 hef
                          clear HROW HE HOj
                          go_wp2_with fail
                          go_roundw
                          case rel => exact ⟨j + 1, by omega, by go_num, by (repeat (first | with_reducible exact HBj.out | with_reducible refine Below.setCell ?_ (by first | omega | (simp; done) | (simp; omega)) _ | with_reducible refine Below.alloc ?_ (by first | omega | (simp; done) | (simp; omega)) _))⟩
                          case measure => simp [intOf]; omega
                      · have hd1 : (F5.k == 0) = false := by simp [d1]
                        rw [if_neg (by rintro ⟨h, -⟩; exact d1 h)] at hef
                        rw [hef] at c3 c4'
                        clear d1 hef
                        clear HROW HE HOj
                        go_wp2_with fail
                        go_roundw
                        case rel => exact ⟨j + 1, by omega, by go_num, by (repeat (first | with_reducible exact HBj.out | with_reducible refine Below.setCell ?_ (by first | omega | (simp; done) | (simp; omega)) _ | with_reducible refine Below.alloc ?_ (by first | omega | (simp; done) | (simp; omega)) _))⟩
                        case measure => simp [intOf]; omega
                    · have hb3 : (e.k != 3) = true := by simp [he3]
                      clear he3
                      clear HROW HE HOj
                      go_wp2_with fail
                      go_roundw
                      case rel => exact ⟨j + 1, by omega, by go_num, by (repeat (first | with_reducible exact HBj.out | with_reducible refine Below.setCell ?_ (by first | omega | (simp; done) | (simp; omega)) _ | with_reducible refine Below.alloc ?_ (by first | omega | (simp; done) | (simp; omega)) _))⟩
                      case measure => simp [intOf]; omega
                  · obtain rfl : j = n4 := by omega
                    clear R5
                    go_wp2_with fail
                    go_roundw
                    case rel => exact ⟨i + 1, own2, t', fst, blk, by omega, by go_num, HOj.out, HF5.out⟩
                    case measure => simp [intOf]; omega
    · obtain rfl : i = L.length := by omega
      have hb : Below w.heap.size w wr := HO.out.ow.bel
      clear HO HF
      go_wp2_with fail
      refine (A13.out _).mono ?_
      rintro e w9 ⟨rfl, hb9⟩
      have HBF := Lib.hid (hb.trans (hb9.mono hzw))
      clear hb hb9
      go_wp2
      go_ret
      exact ⟨rfl, HBF.out⟩
end Go.Proofs.Ytcegmdlmnibheaa
