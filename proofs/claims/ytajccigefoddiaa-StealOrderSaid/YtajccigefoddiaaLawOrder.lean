/- StealOrder. -/
import Derived.Test.YtajccigefoddiaaOrdMem
import Derived.Test.YtajccigefoddiaaLawProgress
namespace Go.Proofs.Ytajccigefoddiaa
set_option linter.unusedVariables false
set_option linter.unusedSimpArgs false
open Go.RowKit Go.Shelf
open St
set_option maxRecDepth 100000 in
set_option maxHeartbeats 4000000 in
theorem ord_core (w : World) (r : Int) (p p2 : Option Addr) (n cp n2 c2 kn : Nat) (l : List Int) (hkn : Hid (l.length = kn)) (hk62 : kn ≤ 62) (lg : List (Nat × Int)) (hlen : lg.length ≤ 100000)
    (INC : Hid ((0 :: stl lg).Pairwise (· < ·)))
    (C : Hid (∀ W q, Below w.heap.size w W → NumsAt W q [30, 30, 30] → Calls Try.prog 13 #[.agg #[.int .i64 r, .slice p n cp, .slice q 3 3]] W fun e w' => ∃ p' q' cp' cq', e = .returned (.agg #[.int .i64 r, .slice p' kn cp', .slice q' 3 cq']) ∧ Ins w.heap.size w' r p' q' cp' cq' l [30, 30, 30] ∧ Below W.heap.size W w'))
    (M : Hid (∀ W p' q' cp' cq', Below w.heap.size w W → PlanIn W r p' q' cp' cq' (relab 0 l) [30, 30, 30] → Calls Try.prog 12 #[.agg #[.int .i64 r, .slice p' kn cp', .slice q' 3 cq']] W fun e w' => (e = .returned (.tuple #[.pointer none, .int .i64 2]) ∧ Below W.heap.size W w') ∨ ∃ rb, e = .returned (.tuple #[ptr rb, .int .i64 0]) ∧ Below W.heap.size W w' ∧ Calls Try.prog 20 #[ptr rb, .slice p2 n2 c2] w' fun e w'' => Below w.heap.size w w'' ∧ ∃ pp cc, e = .returned (.tuple #[.slice pp lg.length cc, .bool true]) ∧ PairsAt w'' pp lg)) :
    Calls Try.prog 5 #[.int .i64 r, .slice p n cp, .slice p2 n2 c2] w fun e w' => e = .returned (.bool true) ∧ Below w.heap.size w w' := by
  have AW := Lib.hid awake_any
  unfold still at AW
  go_enter Try.func5, Try.ntmps5
  have C1 := Lib.hid (C.out (w.alloc (.cells #[.int .i64 30, .int .i64 30, .int .i64 30] 3)) (some ⟨w.heap.size, 0, none⟩) (one w _) (fun _ => ⟨w.heap.size, 0, rfl, by simp, fun j hj => by
    have hB := Blk.new w #[.int .i64 30, .int .i64 30, .int .i64 30] 3
    match j, hj with
    | 0, _ => exact hB.cell 0 _ rfl
    | 1, _ => exact hB.cell 1 _ rfl
    | 2, _ => exact hB.cell 2 _ rfl⟩))
  have HB0 := Lib.hid (one w (.cells #[.int .i64 30, .int .i64 30, .int .i64 30] 3))
  clear C
  go_wp2_with fail
  refine C1.out.mono ?_
  rintro e w1 ⟨p', q', cp', cq', rfl, hI, hb⟩
  have HS : Hid (Ord1 w w.heap.size w1.heap.size r p' q' cp' cq' l [30, 30, 30] 0 (w1.alloc (.cells #[.int .i64 r, .slice p' kn cp', .slice q' 3 cq'] 24))) := Lib.hid ⟨by rw [mid_zero]; exact hI.below (one _ _), by rw [hkn.out]; exact Blk.new w1 _ 24, fun g off e hg => by have := (owns_at hI.own e).2; omega, Nat.le_refl _, (HB0.out.trans (hb.mono HB0.out.size)).trans ((one _ _).mono (HB0.out.trans (hb.mono HB0.out.size)).size)⟩
  clear hI hb C1 HB0
  go_wp2_with fail
  go_loopw [8, 25] (fun c i wr => ∃ (k : Nat), k ≤ kn ∧ c = .int .i64 (cntP l k : Int) ∧ i = .int .i64 (k : Int) ∧ Hid (Ord1 w w.heap.size w1.heap.size r p' q' cp' cq' l [30, 30, 30] k wr)) (fun _ i _ => kn - (intOf i).toNat)
  case atStart => exact ⟨0, by omega, rfl, rfl, HS⟩
  case round =>
    obtain ⟨k, hk, rfl, rfl, HO⟩ := hrel
    have hblk : Blk wr w1.heap.size [.int .i64 r, .slice p' kn cp', .slice q' 3 cq'] := by have := HO.out.blk; rw [hkn.out] at this; exact this
    have y0 := hblk.cell 0 _ rfl
    have y1 := hblk.cell 1 _ rfl
    have y2 := hblk.cell 2 _ rfl
    have hbl := hblk.lt
    clear hblk HS
    by_cases hlt : k < kn
    · obtain ⟨x, hx⟩ : ∃ x, l[k]? = some x := ⟨_, List.getElem?_eq_getElem (by have := hkn.out; omega)⟩
      obtain ⟨g, rfl, hg, hc, hf⟩ := HO.out.form (by have := hkn.out; omega)
      have c0 := hc x hx
      have HX := Lib.hid hx
      have j1 : (k : Int) < (kn : Int) := by omega
      have hcn : cntP l k ≤ 62 := by have := cntP_le l k; have := hkn.out; omega
      have hcs := cntP_succ l k x hx
      clear hc hx
      by_cases h0 : 0 < x
      · rw [if_pos h0] at hcs
        have HCS := Lib.hid hcs
        have HST := Lib.hid (HO.out.store HX.out h0 (by simp) rfl)
        clear hcs HO
        go_wp2_with fail
        all_goals exact ⟨⟨k + 1, by omega, by rw [HCS.out]; go_num, by go_num, HST⟩, by simp [intOf]; omega⟩
      · rw [if_neg h0] at hcs
        have HCS := Lib.hid hcs
        have HST := Lib.hid (HO.out.skip HX.out h0)
        clear hcs HO
        go_wp2_with fail
        all_goals exact ⟨⟨k + 1, by omega, by rw [HCS.out]; rfl, by go_num, HST⟩, by simp [intOf]; omega⟩
    · obtain rfl : k = kn := by omega
      have hP := HO.out.ins.pl
      have hbel := HO.out.bel
      rw [← hkn.out, mid_all] at hP
      have M1 := Lib.hid (M.out wr p' q' cp' cq' hbel hP)
      have HBW := Lib.hid hbel
      clear hP hbel M HO
      go_wp2_with fail
      refine M1.out.mono ?_
      rintro e w3 (⟨rfl, hb⟩ | ⟨rb, rfl, hb, hC⟩)
      · have HB := Lib.hid (HBW.out.trans (hb.mono HBW.out.size))
        clear hb M1
        go_wp2_with fail
        refine (AW.out _).mono ?_
        rintro e w4 ⟨rfl, hb⟩
        have HB2 := Lib.hid (HB.out.trans (hb.mono HB.out.size))
        clear hb
        go_wp2
        go_ret
        exact ⟨rfl, HB2.out⟩
      · have C2 := Lib.hid hC
        clear hC hb M1
        go_wp2_with fail
        refine C2.out.mono ?_
        rintro e w2 ⟨hb, pp, cc, rfl, hp⟩
        have HB := Lib.hid hb
        have HPR := Lib.hid hp
        obtain ⟨L, hL⟩ : ∃ L, L = lg.length := ⟨_, rfl⟩
        rw [← hL] at hlen ⊢
        have HL := Lib.hid hL
        clear hb hp C2 hL y0 y1 y2 hbl
        go_wp2_with fail
        go_loopw [8, 62] (fun c i ws => ∃ (k : Nat), k ≤ L ∧ c = .int .i64 (lastS (lg.take k)) ∧ i = .int .i64 (k : Int) ∧ Hid (Below w2.heap.size w2 ws)) (fun _ i _ => L - (intOf i).toNat)
        case atStart => exact ⟨0, by omega, rfl, rfl, Lib.hid (Below.refl _ _)⟩
        case round =>
          obtain ⟨m, hm, rfl, rfl, HW⟩ := hrel
          by_cases hlt : m < L
          · obtain ⟨e, he⟩ : ∃ e, lg[m]? = some e := ⟨_, List.getElem?_eq_getElem (by have := HL.out; omega)⟩
            have HE := Lib.hid he
            obtain ⟨g, rfl, hg, hcell⟩ := HPR.out (by have := HL.out; omega)
            obtain ⟨d0, d1⟩ := hcell m e he
            have c0 := cell_of HW.out d0
            have c1 := cell_of HW.out d1
            have hgr := Nat.lt_of_lt_of_le hg HW.out.size
            have j1 : (m : Int) < (L : Int) := by omega
            have hls := lastS_take he
            have hlt2 := fun h1 h2 => lastS_lt INC.out he h1 h2
            obtain ⟨i0, y⟩ := e
            have LD : Hid (wr.rangeAt g (m * 2) [natV i0, .int .i64 y]) := Lib.hid fun j v hv => by
              match j, hv with
              | 0, hv => simp at hv; subst hv; exact c0
              | 1, hv => simp at hv; subst hv; exact c1
            clear he hcell d0 d1
            have HDONE : Hid (Below w2.heap.size w2 (wr.alloc (.cells #[natV i0, .int .i64 y] 45))) := Lib.hid (HW.out.trans ((one wr _).mono HW.out.size))
            obtain ⟨lst, hlst⟩ : ∃ z, z = lastS (lg.take m) := ⟨_, rfl⟩
            rw [← hlst] at hls hlt2 ⊢
            by_cases hn0 : i0 = 0
            · subst hn0
              have HLS : Hid (lastS (lg.take (m + 1)) = lst) := Lib.hid (by rw [hls, if_neg (fun h => h.1 rfl)])
              clear hls hlt2 hlst
              go_wp2_with fail
              all_goals exact ⟨⟨m + 1, by omega, by rw [HLS.out], by go_num, HDONE⟩, by simp [intOf]; omega⟩
            · have hn1 : ((i0 : Int) == 0) = false := by simp; omega
              simp only at c0 c1 LD
              by_cases hy : y ≤ 0
              · have HLS : Hid (lastS (lg.take (m + 1)) = lst) := Lib.hid (by rw [hls, if_neg (fun h => by have := h.2; simp only at this; omega)])
                clear hls hlt2 hlst
                go_wp2_with fail
                all_goals exact ⟨⟨m + 1, by omega, by rw [HLS.out], by go_num, HDONE⟩, by simp [intOf]; omega⟩
              · have HLS : Hid (lastS (lg.take (m + 1)) = y) := Lib.hid (by rw [hls, if_pos ⟨hn0, by simp only; omega⟩])
                have hy2 : ¬ y ≤ lst := by have := hlt2 hn0 (by simp only; omega); simp only at this; omega
                clear hls hlt2 hlst
                go_wp2_with fail
                all_goals exact ⟨⟨m + 1, by omega, by rw [HLS.out], by go_num, HDONE⟩, by simp [intOf]; omega⟩
          · obtain rfl : m = L := by omega
            go_wp2_with fail
            refine (AW.out _).mono ?_
            rintro e w4 ⟨rfl, hb⟩
            have HB2 := Lib.hid (HB.out.trans ((HW.out.mono HB.out.size).trans (hb.mono (Nat.le_trans HB.out.size HW.out.size))))
            clear hb
            go_wp2
            go_ret
            exact ⟨rfl, HB2.out⟩
end Go.Proofs.Ytajccigefoddiaa
