/- StealOnce. -/
import Derived.Test.YtajccigefoddiaaOncMem
namespace Go.Proofs.Ytajccigefoddiaa
set_option linter.unusedVariables false
set_option linter.unusedSimpArgs false
open Go.RowKit Go.Shelf
open St
set_option maxRecDepth 100000 in
set_option maxHeartbeats 8000000 in
theorem once_core (w : World) (r : Int) (p q p2 : Option Addr) (n m cp cq n2 c2 kn km : Nat) (l : List Int) (hkn : Hid (l.length = kn)) (hk62 : kn ≤ 62) (lg : List (Nat × Int)) (hlen : lg.length ≤ 100000) (rest : List Int)
    (C : Hid (∀ o, Calls Try.prog 12 #[.agg #[.int .i64 r, .slice p n cp, .slice q m cq]] (w.alloc o) fun e w' => (e = .returned (.tuple #[.pointer none, .int .i64 2]) ∧ Below w.heap.size w w') ∨ ∃ rb, e = .returned (.tuple #[ptr rb, .int .i64 0]) ∧ ((∀ x ∈ l, 0 ≤ x) ∧ ∃ ins outs, lg.foldl (oncStep l) (some (0, [], [])) = some (l.length, ins, outs) ∧ ins.Perm (outs ++ rest)) ∧ Below (w.alloc o).heap.size (w.alloc o) w' ∧ Calls Try.prog 20 #[ptr rb, .slice p2 n2 c2] w' fun e w'' => Below (w.alloc o).heap.size (w.alloc o) w'' ∧ ∃ pp cc, e = .returned (.tuple #[.slice pp lg.length cc, .bool true]) ∧ PairsAt w'' pp lg ∧ (∀ g off, pp = some ⟨g, off, none⟩ → g ≠ w.heap.size) ∧ rest.length ≤ 200000 ∧ ∀ W', Fr (fun k => k = w.heap.size) w'' W' → Calls Try.prog 21 #[ptr rb] W' (numsPost W' rest)))
    (C13 : Hid (∀ W, Below w.heap.size w W → Calls Try.prog 13 #[.agg #[.int .i64 r, .slice p n cp, .slice q m cq]] W fun e w' => ∃ p' q' cp' cq', e = .returned (.agg #[.int .i64 r, .slice p' kn cp', .slice q' km cq']) ∧ NumsAt w' p' l ∧ (∀ g off, p' = some ⟨g, off, none⟩ → W.heap.size < g) ∧ Below W.heap.size W w')) :
    Calls Try.prog 4 #[.agg #[.int .i64 r, .slice p n cp, .slice q m cq], .slice p2 n2 c2] w fun e w' => e = .returned (.bool true) ∧ Below w.heap.size w w' := by
  have AW := Lib.hid awake_any
  unfold still at AW
  obtain ⟨i0', hi, hz0, hz1, hz2⟩ := info_parts info3
  have HI := Lib.hid hi; have HZ0 := Lib.hid hz0; have HZ1 := Lib.hid hz1; have HZ2 := Lib.hid hz2
  have HBK := Lib.hid (Blk.new w #[.int .i64 r, .slice p n cp, .slice q m cq] 24)
  have HB0 := Lib.hid (one w (.cells #[.int .i64 r, .slice p n cp, .slice q m cq] 24))
  have C1 := Lib.hid (C.out (.cells #[.int .i64 r, .slice p n cp, .slice q m cq] 24))
  clear hi hz0 hz1 hz2 C
  go_enter Try.func4, Try.ntmps4
  go_wp2_with fail
  refine C1.out.mono ?_
  rintro e w1 (⟨rfl, hb⟩ | ⟨rb, rfl, hnf, hb, hC⟩)
  · have HB := Lib.hid hb
    clear hb C1
    go_wp2_with fail
    refine (AW.out _).mono ?_
    rintro e w2 ⟨rfl, hb⟩
    have HB2 := Lib.hid (HB.out.trans (hb.mono HB.out.size))
    clear hb
    go_wp2
    go_ret
    exact ⟨rfl, HB2.out⟩
  · have C2 := Lib.hid hC
    have NN := Lib.hid hnf.1
    have FIN := Lib.hid hnf.2
    clear hC hb C1 hnf
    go_wp2_with fail
    refine C2.out.mono ?_
    rintro e w2 ⟨hb, pp, cc, rfl, hp, hpn, hrest, hR⟩
    have HBK2 := Lib.hid (HBK.out.below hb HBK.out.lt)
    have HPR := Lib.hid hp
    have HPN := Lib.hid hpn
    have HR := Lib.hid hR
    have HB2 := Lib.hid (HB0.out.trans (hb.mono HB0.out.size))
    have C3 := Lib.hid (C13.out w2 HB2.out)
    obtain ⟨L, hL⟩ : ∃ L, L = lg.length := ⟨_, rfl⟩
    rw [← hL] at hlen ⊢
    have HL := Lib.hid hL
    have y0 := HBK2.out.cell 0 _ rfl
    have y1 := HBK2.out.cell 1 _ rfl
    have y2 := HBK2.out.cell 2 _ rfl
    clear hb hp hpn hR C2 hL C13
    go_wp2_with fail
    refine C3.out.mono ?_
    rintro e w4 ⟨p', q', cp', cq', rfl, hN, hg, hb⟩
    have HBK4 := Lib.hid (HBK2.out.below hb HBK2.out.lt)
    have z0 := HBK4.out.fz 0
    have z1 := HBK4.out.fz 1
    have z2 := HBK4.out.fz 2
    have x0 := HBK4.out.cell 0 _ rfl
    have x1 := HBK4.out.cell 1 _ rfl
    have x2 := HBK4.out.cell 2 _ rfl
    have hl4 := HBK4.out.lt
    obtain ⟨W5, hW5⟩ : ∃ W5, W5 = (((w4.setCell ⟨w.heap.size, 0, none⟩ (.int .i64 r)).setCell ⟨w.heap.size, 1, none⟩ (.slice p' kn cp')).setCell ⟨w.heap.size, 2, none⟩ (.slice q' km cq')) := ⟨_, rfl⟩
    have hF : Fr (fun k => k = w.heap.size) w4 W5 := by rw [hW5]; exact frS (frS (frA w4 w.heap.size 0 _) _ _) _ _
    have HF2 : Hid (Fr (fun k => k = w.heap.size) w2 W5) := Lib.hid ((Fr.of_below hb).trans hF)
    have HB5 : Hid (Below w.heap.size w W5) := Lib.hid ((HB2.out.trans (hb.mono HB2.out.size)).trans (hF.below (fun x hx => by omega) (Nat.le_trans HB2.out.size hb.size)))
    have HN5 : Hid (NumsAt W5 p' l) := Lib.hid (hN.fr hF (fun g off e hh => by have := hg g off e; have := HBK2.out.lt; omega))
    have HPR5 : Hid (PairsAt W5 pp lg) := Lib.hid (fun h0 => by
      obtain ⟨g, e, hg1, hc⟩ := HPR.out h0
      refine ⟨g, e, Nat.lt_of_lt_of_le hg1 HF2.out.size, fun k f hf => ?_⟩
      obtain ⟨d0, d1⟩ := hc k f hf
      have hn := HPN.out g 0 e
      exact ⟨(HF2.out.cell (p := ⟨g, k * 2, none⟩) hg1 hn).trans d0, (HF2.out.cell (p := ⟨g, k * 2 + 1, none⟩) hg1 hn).trans d1⟩)
    have HBK5 : Hid (Blk W5 w.heap.size [.int .i64 r, .slice p' kn cp', .slice q' km cq']) := Lib.hid (by rw [hW5]; exact ((HBK4.out.set (o := 0) (by simp) _).set (o := 1) (by simp) _).set (o := 2) (by simp) _)
    have HW5 := Lib.hid hW5
    clear hN hg hb hF hW5 C3 y0 y1 y2
    go_wp2_with fail
    rw [← HW5.out]
    clear x0 x1 x2 z0 z1 z2 hl4 HW5 HBK4 HBK2 HBK HPR HPN
    go_loopw [9, 10, 11, 39] (fun s v a i wr => OnRel W5 l lg L s v a i wr) (fun _ _ _ i _ => L - (intOf i).toNat)
    case atStart => exact ⟨0, 0, [], [], by omega, rfl, rfl, rfl, ⟨Nat.le_refl _, Nat.le_refl _, Nat.zero_le _⟩, Sk.start (Below.refl _ _)⟩
    case round =>
      obtain ⟨k, a, S, R, hk, rfl, rfl, hst, hll, hS⟩ := hrel
      have y1 := cell_of hS.bel (HBK5.out.cell 1 _ rfl)
      have hbl := Nat.lt_of_lt_of_le HBK5.out.lt hS.bel.size
      obtain ⟨ps, cs, rfl, a1, a2, _⟩ := owns_form hS.rs
      obtain ⟨pv, cv, rfl, b1, b2, _⟩ := owns_form hS.rr
      by_cases hlt : k < L
      · obtain ⟨e, he⟩ : ∃ e, lg[k]? = some e := ⟨_, List.getElem?_eq_getElem (by have := HL.out; omega)⟩
        obtain ⟨g, rfl, hg, hcell⟩ := HPR5.out (by have := HL.out; omega)
        obtain ⟨d0, d1⟩ := hcell k e he
        have c0 := cell_of hS.bel d0
        have c1 := cell_of hS.bel d1
        have hgr := Nat.lt_of_lt_of_le hg hS.bel.size
        have j1 : (k : Int) < (L : Int) := by omega
        obtain ⟨z, hz⟩ := FIN.out.elim fun ins h => h.elim fun outs h => onc_some h.1 (k + 1)
        have hcs := onc_succ l lg k e he
        rw [hst, hz] at hcs
        obtain ⟨i0, y⟩ := e
        have LD : Hid (wr.rangeAt g (k * 2) [natV i0, .int .i64 y]) := Lib.hid fun j v hv => by
          match j, hv with
          | 0, hv => simp at hv; subst hv; exact c0
          | 1, hv => simp at hv; subst hv; exact c1
        simp only at c0 c1 LD
        have hca := onc_cases NN.out hcs.symm
        have HZ := Lib.hid hz
        have HN5R : Hid (NumsAt wr p' l) := Lib.hid (fun h0 => by
          obtain ⟨g, off, e, hg, hc⟩ := HN5.out h0
          exact ⟨g, off, e, Nat.lt_of_lt_of_le hg hS.bel.size, fun j hj => cell_of hS.bel (hc j hj)⟩)
        obtain ⟨nS, hnS⟩ : ∃ n, n = S.length := ⟨_, rfl⟩
        obtain ⟨nR, hnR⟩ : ∃ n, n = R.length := ⟨_, rfl⟩
        have HRS : Hid (wr.ownsRow W5.heap.size 3 1 (.slice ps nS cs) nS (ints S)) := Lib.hid (by have := hS.rs; rw [← hnS] at this; exact this)
        have HRR : Hid (wr.ownsRow W5.heap.size 3 1 (.slice pv nR cv) nR (ints R)) := Lib.hid (by have := hS.rr; rw [← hnR] at this; exact this)
        have HS : Hid (Sk W5 S R (.slice ps nS cs) (.slice pv nR cv) wr) := Lib.hid (by rw [hnS, hnR]; exact hS)
        obtain ⟨l1, l2, l3⟩ := hll
        rw [← hnS] at a1 l1 ⊢
        rw [← hnR] at b1 l2 ⊢
        have HEQ1 := Lib.hid hnS
        have HEQ2 := Lib.hid hnR
        have HSZ := Lib.hid hS.bel.size
        have hml : (2000000 : Nat) ≤ maxLen := by decide
        have t1 : nR + 1 ≤ maxLen := by omega
        have t2 : nS + 1 ≤ maxLen := by omega
        have HLK : Hid (l.length = kn) := hkn
        have l3' : a ≤ kn := by have := hkn.out; omega
        have HL3 := Lib.hid l3
        clear hS hst hcs hz he hcell d0 d1 hnS hnR hg HN5 HPR5 HF2 HB2 HB5 HR FIN l3
        have HLEN : ∀ (x : Int), (S ++ [x]).length = nS + 1 ∧ (R ++ [x]).length = nR + 1 := fun x => by rw [HEQ1.out, HEQ2.out]; simp
        have HLEN0 := Lib.hid HLEN
        clear HLEN
        rcases hca with ⟨hi, hy, rfl⟩ | ⟨hi, hy, rfl⟩ | ⟨rfl, op, hop, hca⟩
        · have HE := HZ
          have hi1 : (0 : Int) < (i0 : Int) := by omega
          clear HRS
          go_wp2_with (at_builtin; refine wpList_append_own_at _ (by rfl) (.tmp 49) (.tmp 52) 22 (by rfl) W5.heap.size 3 i0' (.int .i64 0) 1 8 Try.underlying22 HI.out HZ0.out HZ1.out HZ2.out (by rfl) (by decide) (.slice pv nR cv) nR _ (by rfl) ((HRR.out.alloc _).alloc _) ⟨wr.heap.size + 1, 0, none⟩ 1 1 [.int .i64 y] (by rfl) (by rfl) (cell_one_2 _ _ _ _) (by simp [Value.oneCell']) t1 (by omega) (by have := HSZ.out; simp; omega) ?_)
          intro v5 w5 hown5 hG5 _ hat5
          obtain ⟨g5, cp5, rfl⟩ := ownsRow_succ hown5
          have HK : Hid (Sk W5 S (R ++ [y]) (.slice ps nS cs) (.slice (some ⟨g5, 0, none⟩) (nR + 1) cp5) w5) := Lib.hid ((((HS.out.below (one wr (.cells #[natV i0, .int .i64 y] 45))).below (one _ (.cells #[.int .i64 y] 3))).swap.app y (by rw [HEQ2.out]) rfl hown5 hG5 hat5 (by simp)).swap)
          clear hown5 hG5 hat5
          go_wp2_with fail
          all_goals exact ⟨OnRel.of HK.out HE.out (by omega) ⟨by rw [← HEQ1.out]; omega, by rw [(HLEN0.out _).2]; omega, HL3.out⟩ (by go_num) (by go_num), by simp [intOf]; omega⟩
        · have HE := HZ
          have hi1 : (0 : Int) < (i0 : Int) := by omega
          clear HRS HRR
          have HK : Hid (Sk W5 S R (.slice ps nS cs) (.slice pv nR cv) (wr.alloc (.cells #[natV i0, .int .i64 y] 45))) := Lib.hid (HS.out.below (one wr _))
          go_wp2_with fail
          all_goals exact ⟨OnRel.of HK.out HE.out (by omega) ⟨by rw [← HEQ1.out]; omega, by rw [← HEQ2.out]; omega, HL3.out⟩ (by go_num) (by go_num), by simp [intOf]; omega⟩
        · have hal := (List.getElem?_eq_some_iff.1 hop).1
          have HAL := Lib.hid hal
          have ha : a < kn := by rw [← hkn.out]; exact hal
          obtain ⟨go, oo, rfl, hgo, hco⟩ := HN5R.out (by omega)
          have co := hco a hal
          rw [List.getD_eq_getElem?_getD, hop, Option.getD_some] at co
          have hi0 : ¬ (0 : Int) < ((0 : Nat) : Int) := by omega
          have j2 : (a : Int) < (kn : Int) := by omega
          clear hco hop hal
          rcases hca with ⟨h1, h2, rfl⟩ | ⟨h1, h2, h3, rfl⟩ | ⟨h1, h2, rfl⟩ | ⟨h1, h2, rfl⟩
          · subst h2
            have HE := HZ
            clear HRR
            go_wp2_with (at_builtin; refine wpList_append_own_at _ (by rfl) (.tmp 75) (.tmp 77) 22 (by rfl) W5.heap.size 3 i0' (.int .i64 0) 1 8 Try.underlying22 HI.out HZ0.out HZ1.out HZ2.out (by rfl) (by decide) (.slice ps nS cs) nS _ (by rfl) ((HRS.out.alloc _).alloc _) ⟨wr.heap.size + 1, 0, none⟩ 1 1 [.int .i64 y] (by rfl) (by rfl) (cell_one_2 _ _ _ _) (by simp [Value.oneCell']) t2 (by omega) (by have := HSZ.out; simp; omega) ?_)
            intro v5 w5 hown5 hG5 _ hat5
            obtain ⟨g5, cp5, rfl⟩ := ownsRow_succ hown5
            have HK : Hid (Sk W5 (S ++ [y]) R (.slice (some ⟨g5, 0, none⟩) (nS + 1) cp5) (.slice pv nR cv) w5) := Lib.hid (((HS.out.below (one wr (.cells #[natV 0, .int .i64 y] 45))).below (one _ (.cells #[.int .i64 y] 3))).app y (by rw [HEQ1.out]) rfl hown5 hG5 hat5 (by simp))
            clear hown5 hG5 hat5
            go_wp2_with fail
            all_goals exact ⟨OnRel.of HK.out HE.out (by omega) ⟨by rw [(HLEN0.out _).1]; omega, by rw [← HEQ2.out]; omega, HAL.out⟩ (by go_num) (by go_num), by simp [intOf]; omega⟩
          · subst h3
            have HE := HZ
            have hq : ((-1 : Int) == op) = false := by simp; omega
            have hq2 : (op == 0) = false := by simp; omega
            clear HRR HRS
            have HK : Hid (Sk W5 S R (.slice ps nS cs) (.slice pv nR cv) (wr.alloc (.cells #[natV 0, .int .i64 (-1)] 45))) := Lib.hid (HS.out.below (one wr _))
            go_wp2_with fail
            all_goals exact ⟨OnRel.of HK.out HE.out (by omega) ⟨by rw [← HEQ1.out]; omega, by rw [← HEQ2.out]; omega, HAL.out⟩ (by go_num) (by go_num), by simp [intOf]; omega⟩
          · subst h1
            have HE := HZ
            clear HRS
            go_wp2_with (at_builtin; refine wpList_append_own_at _ (by rfl) (.tmp 104) (.tmp 107) 22 (by rfl) W5.heap.size 3 i0' (.int .i64 0) 1 8 Try.underlying22 HI.out HZ0.out HZ1.out HZ2.out (by rfl) (by decide) (.slice pv nR cv) nR _ (by rfl) ((HRR.out.alloc _).alloc _) ⟨wr.heap.size + 1, 0, none⟩ 1 1 [.int .i64 y] (by rfl) (by rfl) (cell_one_2 _ _ _ _) (by simp [Value.oneCell']) t1 (by omega) (by have := HSZ.out; simp; omega) ?_)
            intro v5 w5 hown5 hG5 _ hat5
            obtain ⟨g5, cp5, rfl⟩ := ownsRow_succ hown5
            have HK : Hid (Sk W5 S (R ++ [y]) (.slice ps nS cs) (.slice (some ⟨g5, 0, none⟩) (nR + 1) cp5) w5) := Lib.hid ((((HS.out.below (one wr (.cells #[natV 0, .int .i64 y] 45))).below (one _ (.cells #[.int .i64 y] 3))).swap.app y (by rw [HEQ2.out]) rfl hown5 hG5 hat5 (by simp)).swap)
            clear hown5 hG5 hat5
            go_wp2_with fail
            all_goals exact ⟨OnRel.of HK.out HE.out (by omega) ⟨by rw [← HEQ1.out]; omega, by rw [(HLEN0.out _).2]; omega, HAL.out⟩ (by go_num) (by go_num), by simp [intOf]; omega⟩
          · subst h1 h2
            have HE := HZ
            clear HRS HRR
            have HK : Hid (Sk W5 S R (.slice ps nS cs) (.slice pv nR cv) (wr.alloc (.cells #[natV 0, .int .i64 0] 45))) := Lib.hid (HS.out.below (one wr _))
            go_wp2_with fail
            all_goals exact ⟨OnRel.of HK.out HE.out (by omega) ⟨by rw [← HEQ1.out]; omega, by rw [← HEQ2.out]; omega, HAL.out⟩ (by go_num) (by go_num), by simp [intOf]; omega⟩
      · obtain rfl : k = L := by omega
        obtain ⟨ins, outs, hfo, hpm⟩ := FIN.out
        have htk : onc l lg k = lg.foldl (oncStep l) (some (0, [], [])) := by unfold onc; rw [HL.out, List.take_length]
        rw [hst, hfo] at htk
        obtain ⟨rfl, rfl, rfl⟩ : a = l.length ∧ S = ins ∧ R = outs := by simpa using htk
        obtain ⟨l1, l2, l3⟩ := hll
        have hse := sorted_eq hpm
        have hpl := hpm.length_eq
        rw [List.length_append] at hpl
        have C4 := Lib.hid (HR.out wr (HF2.out.trans (Fr.of_below hS.bel)))
        have HS0 := Lib.hid hS
        have SS : Hid (∀ (W : World) (p : Option Addr) (c : Nat) (vR : Value), Sk W5 S (R ++ rest) (.slice p S.length c) vR W → Calls Try.prog 22 #[.slice p S.length c] W fun e W' => e = .returned (.tuple #[]) ∧ Sk W5 (sorted S) (R ++ rest) (.slice p S.length c) vR W') := Lib.hid fun W p c vR h => (sort_row W S (by omega) h.rs).mono fun e W' h2 => ⟨h2.1, h.sort h2.2.1 h2.2.2⟩
        have SR : Hid (∀ (W : World) (p : Option Addr) (c : Nat) (vS : Value), Sk W5 (sorted S) (R ++ rest) vS (.slice p (R ++ rest).length c) W → Calls Try.prog 22 #[.slice p (R ++ rest).length c] W fun e W' => e = .returned (.tuple #[]) ∧ Sk W5 (sorted S) (sorted (R ++ rest)) vS (.slice p (R ++ rest).length c) W') := Lib.hid fun W p c vS h => (sort_row W (R ++ rest) (by rw [List.length_append]; omega) h.rr).mono fun e W' h2 => ⟨h2.1, (h.swap.sort h2.2.1 h2.2.2).swap⟩
        have EQ : Hid (∀ (W : World) (p p' : Option Addr) (c c' : Nat), Sk W5 (sorted S) (sorted (R ++ rest)) (.slice p S.length c) (.slice p' (R ++ rest).length c') W → Calls Try.prog 23 #[.slice p S.length c, .slice p' (R ++ rest).length c'] W fun e W' => e = .returned (.bool true) ∧ Below W.heap.size W W') := Lib.hid fun W p p' c c' h => by
          have n1 := h.rs
          have n2 := h.rr
          have e1 := sorted_length S
          have e2 := sorted_length (R ++ rest)
          rw [← e1] at n1 ⊢
          rw [← e2] at n2 ⊢
          have := equalI_any W p p' c c' (sorted S) (sorted (R ++ rest)) (by rw [e1]; omega) (by rw [e2, List.length_append]; omega) (nums_at n1) (nums_at n2)
          rw [show (sorted S == sorted (R ++ rest)) = true by rw [hse]; exact beq_self_eq_true _] at this
          exact this
        have HNT := Lib.hid hpl
        have hHB5 := HBK5.out.lt
        clear hS hpm hse htk hfo a1 a2 b1 b2 HF2 HR hst HN5 HPR5
        obtain ⟨nS, hnS⟩ : ∃ n, n = S.length := ⟨_, rfl⟩
        obtain ⟨nR, hnR⟩ : ∃ n, n = R.length := ⟨_, rfl⟩
        obtain ⟨nT, hnT⟩ : ∃ n, n = rest.length := ⟨_, rfl⟩
        have hRT : (R ++ rest).length = nR + nT := by rw [List.length_append, hnR, hnT]
        rw [hRT] at SR EQ
        rw [← hnS] at HS0 SS EQ ⊢
        rw [← hnR] at HS0 ⊢
        have h1 : nR ≤ 100000 := by omega
        have h2 : nT ≤ 200000 := by omega
        have hml : (2000000 : Nat) ≤ maxLen := by decide
        have t1 : nR + nT ≤ maxLen := by omega
        have HEQ2 := Lib.hid hnR
        have HEQ3 := Lib.hid hnT
        have hlk := hkn.out
        rw [hlk]
        unfold numsPost at C4
        rw [← hnT] at C4
        clear hnS hnR hnT hRT hpl l1 l2 l3 hrest hlk
        go_wp2_with fail
        refine C4.out.mono ?_
        rintro e w6 ⟨p6, c6, rfl, k1, k2, k3, k4⟩
        have HS6 := Lib.hid (HS0.out.below k4)
        have HRR6 : Hid (w6.ownsRow W5.heap.size 3 1 (.slice pv nR cv) nR (ints R)) := Lib.hid (by have := (HS0.out.below k4).rr; rw [← HEQ2.out] at this; exact this)
        have HSZ6 : Hid (W5.heap.size ≤ w6.heap.size) := Lib.hid (HS0.out.below k4).bel.size
        have HTL : Hid ((ints rest).length = nT * 1) := Lib.hid (by rw [HEQ3.out]; simp [ints])
        have HONE : Hid (∀ u ∈ ints rest, u.oneCell' = true) := Lib.hid (by simp [ints, Value.oneCell'])
        rcases k3.2 with ⟨hv, hn0⟩ | ⟨g6, cap', cur, hv, _⟩
        · cases hv
          have hr0 : rest = [] := List.eq_nil_of_length_eq_zero (by rw [← HEQ3.out])
          have HSK : Hid (Sk W5 S (R ++ rest) (.slice ps nS cs) (.slice pv nR cv) w6) := Lib.hid (by rw [hr0, List.append_nil]; exact HS6.out)
          rw [Nat.add_zero] at SR EQ
          clear k1 k2 k3 k4 hn0 hr0 C4
          go_wp2_with (at_builtin; refine wpList_append_own_none (by rfl) (.tmp 110) (.tmp 112) 22 (by rfl) W5.heap.size 3 i0' 1 Try.underlying22 HI.out (.slice pv nR cv) nR (ints R) (by rfl) HRR6.out (by rfl) ?_)
          go_wp2_with fail
          refine (SS.out w6 ps cs _ HSK.out).mono ?_
          rintro e w8 ⟨rfl, hsk8⟩
          have HSK8 := Lib.hid hsk8
          clear hsk8
          go_wp2_with fail
          refine (SR.out w8 _ _ _ HSK8.out).mono ?_
          rintro e w9 ⟨rfl, hsk9⟩
          have HSK9 := Lib.hid hsk9
          have y1 := cell_of hsk9.bel (HBK5.out.cell 1 _ rfl)
          have hbl := Nat.lt_of_lt_of_le HBK5.out.lt hsk9.bel.size
          clear hsk9
          go_wp2_with fail
          refine (EQ.out w9 _ _ _ _ HSK9.out).mono ?_
          rintro e w10 ⟨rfl, hb10⟩
          have HB10 := Lib.hid ((HB5.out.trans (HSK9.out.bel.mono HB5.out.size)).trans (hb10.mono (HB5.out.trans (HSK9.out.bel.mono HB5.out.size)).size))
          clear hb10
          go_wp2_with fail
          refine (AW.out _).mono ?_
          rintro e w11 ⟨rfl, hb11⟩
          have HB11 := Lib.hid (HB10.out.trans (hb11.mono HB10.out.size))
          clear hb11
          go_wp2
          go_ret
          exact ⟨rfl, HB11.out⟩
        · cases hv
          have hcn := fun (j : Nat) u => k3.cells (g := g6) rfl j u
          have HCN : Hid (∀ (j : Nat) u, (ints rest)[j]? = some u → w6.cell? ((⟨g6, 0, none⟩ : Addr).add j) = some u) := Lib.hid hcn
          clear k1 k2 k3 k4 hcn C4
          go_wp2_with (at_builtin; refine wpList_append_own_at _ (by rfl) (.tmp 110) (.tmp 112) 22 (by rfl) W5.heap.size 3 i0' (.int .i64 0) 1 8 Try.underlying22 HI.out HZ0.out HZ1.out HZ2.out (by rfl) (by decide) (.slice pv nR cv) nR (ints R) (by rfl) HRR6.out ⟨g6, 0, none⟩ nT c6 (ints rest) (by rfl) HTL.out HCN.out HONE.out t1 (by omega) HSZ6.out ?_)
          intro v7 w7 hown7 hG7 hnn hat7
          obtain ⟨p7, c7, hv7⟩ := slice_form hown7
          subst hv7
          have HSK : Hid (Sk W5 S (R ++ rest) (.slice ps nS cs) (.slice p7 (nR + nT) c7) w7) := Lib.hid ((HS6.out.swap.apps rest (by rw [HEQ2.out, HEQ3.out]) rfl hown7 hG7 hat7 (Nat.le_refl _)).swap)
          clear hown7 hG7 hat7 hnn
          go_wp2_with fail
          refine (SS.out w7 ps cs _ HSK.out).mono ?_
          rintro e w8 ⟨rfl, hsk8⟩
          have HSK8 := Lib.hid hsk8
          clear hsk8
          go_wp2_with fail
          refine (SR.out w8 _ _ _ HSK8.out).mono ?_
          rintro e w9 ⟨rfl, hsk9⟩
          have HSK9 := Lib.hid hsk9
          have y1 := cell_of hsk9.bel (HBK5.out.cell 1 _ rfl)
          have hbl := Nat.lt_of_lt_of_le HBK5.out.lt hsk9.bel.size
          clear hsk9
          go_wp2_with fail
          refine (EQ.out w9 _ _ _ _ HSK9.out).mono ?_
          rintro e w10 ⟨rfl, hb10⟩
          have HB10 := Lib.hid ((HB5.out.trans (HSK9.out.bel.mono HB5.out.size)).trans (hb10.mono (HB5.out.trans (HSK9.out.bel.mono HB5.out.size)).size))
          clear hb10
          go_wp2_with fail
          refine (AW.out _).mono ?_
          rintro e w11 ⟨rfl, hb11⟩
          have HB11 := Lib.hid (HB10.out.trans (hb11.mono HB10.out.size))
          clear hb11
          go_wp2
          go_ret
          exact ⟨rfl, HB11.out⟩
end Go.Proofs.Ytajccigefoddiaa
