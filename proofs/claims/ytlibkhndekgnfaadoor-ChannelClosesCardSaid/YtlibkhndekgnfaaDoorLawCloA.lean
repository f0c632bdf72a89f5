/- ChannelCloses returns true. -/
import Derived.Test.YtlibkhndekgnfaaDoorCloses
namespace Go.Proofs.YtlibkhndekgnfaaDoor
open Go.RowKit

set_option maxRecDepth 100000 in
set_option maxHeartbeats 8000000 in
theorem law_closes_A (k : Nat) (p : Int) (q : Option Addr) (cp : Nat) (L : List Op) (w : World) (henv : Env w) (hk : k ≤ 16) (hp0 : 0 ≤ p) (hp2 : p ≤ 2) (hL : OpsIn w q cp L) (h60 : 60 < L.length) :
    Calls Tryd.prog 5 #[.int .i64 k, .int .i64 p, .slice q L.length cp] w fun e w' => e = .returned (.bool true) ∧ Below w.heap.size w w' := by
  have NN := Lib.hid (new_ok k p w hk hp0 hp2)
  have HE := Lib.hid henv
  have HL := Lib.hid hL
  have hpos := henv.pos
  obtain ⟨m, hm⟩ : ∃ m : Nat, m = min L.length 60 := ⟨_, rfl⟩
  have hm60 : m ≤ 60 := by omega
  have hmL : m ≤ L.length := by omega
  have hmA : m ≤ 60 := by omega
  have hmB : 60 ≤ m := by omega
  have hLc := hL.le
  have hcm := hL.cap
  unfold maxLen at hcm
  clear henv hL hm
  go_enter Tryd.func5, Tryd.ntmps5
  go_wp2_with fail
  refine NN.out.mono ?_
  rintro e w1 ⟨rfl, hR1, hB1⟩
  have HI : Hid (CloRel1 w 0 w1) := Lib.hid ⟨[], newSt k p, ⟨hR1, by simp, HE.out.below hB1, hpos, by simp [newSt], by simp [newSt]⟩, hB1, by simp [newSt]⟩
  clear hR1 hB1 NN
  go_wp2_with fail
  go_loopw [47] (fun vk wr => ∃ i : Nat, i ≤ m ∧ vk = .int .i64 i ∧ CloRel1 w i wr) (fun vk _ => m - (intOf vk).toNat)
  case atStart => exact ⟨0, Nat.zero_le _, rfl, HI.out⟩
  case round =>
    obtain ⟨i, hi, rfl, ns, c, hO, hB, hdr⟩ := hrel
    have HO : Hid (Own w wr w.heap.size ns c) := Lib.hid hO
    have HB := Lib.hid hB
    have hzB := hB.size
    have hblt := hO.rep.lt w.heap.size (by simp)
    clear hO hB
    by_cases hlt : i < m
    · obtain ⟨x, hx⟩ : ∃ x, L[i]? = some x := ⟨_, List.getElem?_eq_getElem (by omega)⟩
      obtain ⟨ab, ao, hq, hab, q0, q1, q2, q3, q4, q5, hsz⟩ := HL.out.cells hx HB.out
      subst hq
      have habr : ab < wr.heap.size := by omega
      have i0 : (0 : Int) ≤ (i : Int) := by omega
      have RR := Lib.hid (HO.out.call x hsz (.cells #[.int .i64 x.kd, .int .i64 x.t, .bool x.send, .int .i64 x.v.k, .int .i64 x.v.n, .string x.v.s] 39))
      clear hx
      go_wp2_with fail
      refine RR.out.mono ?_
      rintro e w2 hst
      obtain ⟨rfl, ns2, hO2, hB2, -, -, hd2⟩ := HO.out.run hzB (by omega) hst
      have HN : Hid (CloRel1 w (i + 1) w2) := Lib.hid ⟨ns2, _, hO2, HB.out.trans hB2, by omega⟩
      clear hst hO2 hB2 hd2
      go_wp2
      go_roundw
      case rel => exact ⟨i + 1, by omega, by go_num, HN.out⟩
      case measure => simp [intOf]; omega
    · obtain rfl : i = m := by omega
      have hwl := HO.out.wl
      have hbl := HO.out.rep.cells.2.2.2.2.2.2.2.1
      have hcp := HO.out.rep.cells.2.2.2.2.2.2.2.2.1
      have hbl2 : c.buf.length ≤ 1000 := by omega
      have ST := Lib.hid (state_any w.heap.size ns c wr HO.out.rep (by omega))
      go_wp2_with fail
      refine ST.out.mono ?_
      rintro e w3 ⟨bv, wv, he3, hbv, hwv, hb3⟩
      obtain ⟨pb, cb, rfl, -⟩ := hbv.form2
      obtain ⟨pw, cw, rfl, -⟩ := hwv.form2
      have hz3 := hb3.size
      clear ST
      cases hc : c.closed with
      | true =>
        rw [hc] at he3
        obtain rfl := he3
        have HO4 := Lib.hid ((HO.out.below hb3).below (one w3 (.cells #[.int .i64 c.cap, .int .i64 c.pol, .bool true, .slice pb c.buf.length cb, .slice pw c.wait.length cw, .int .i64 c.dropped] 30)))
        have HBV := Lib.hid (hbv.below (one w3 (.cells #[.int .i64 c.cap, .int .i64 c.pol, .bool true, .slice pb c.buf.length cb, .slice pw c.wait.length cw, .int .i64 c.dropped] 30)))
        have HWV := Lib.hid (hwv.below (one w3 (.cells #[.int .i64 c.cap, .int .i64 c.pol, .bool true, .slice pb c.buf.length cb, .slice pw c.wait.length cw, .int .i64 c.dropped] 30)))
        have HB4 := Lib.hid ((HB.out.trans (hb3.mono hzB)).alloc (by omega) (.cells #[.int .i64 c.cap, .int .i64 c.pol, .bool true, .slice pb c.buf.length cb, .slice pw c.wait.length cw, .int .i64 c.dropped] 30))
        have HT := Lib.hid (Blk.new w3 #[.int .i64 c.cap, .int .i64 c.pol, .bool true, .slice pb c.buf.length cb, .slice pw c.wait.length cw, .int .i64 c.dropped] 30)
        have hn4 : (w3.alloc (.cells #[.int .i64 c.cap, .int .i64 c.pol, .bool true, .slice pb c.buf.length cb, .slice pw c.wait.length cw, .int .i64 c.dropped] 30)).heap.size = w3.heap.size + 1 := World.size_alloc _ _
        have HN4 := Lib.hid hn4
        clear hbv hwv hb3 hn4
        have CL := Lib.hid (close_closed w.heap.size ns c _ HO4.out.rep hc)
        have HTS : Hid (∀ W, Below (w3.alloc (.cells #[.int .i64 c.cap, .int .i64 c.pol, .bool true, .slice pb c.buf.length cb, .slice pw c.wait.length cw, .int .i64 c.dropped] 30)).heap.size (w3.alloc (.cells #[.int .i64 c.cap, .int .i64 c.pol, .bool true, .slice pb c.buf.length cb, .slice pw c.wait.length cw, .int .i64 c.dropped] 30)) W → W.cell? ⟨w3.heap.size, 0, none⟩ = some (.int .i64 c.cap) ∧ W.cell? ⟨w3.heap.size, 1, none⟩ = some (.int .i64 c.pol) ∧ W.cell? ⟨w3.heap.size, 2, none⟩ = some (.bool true) ∧ W.cell? ⟨w3.heap.size, 3, none⟩ = some (.slice pb c.buf.length cb) ∧ W.cell? ⟨w3.heap.size, 4, none⟩ = some (.slice pw c.wait.length cw) ∧ W.cell? ⟨w3.heap.size, 5, none⟩ = some (.int .i64 c.dropped)) := Lib.hid fun W hW =>
          have hTr := HT.out.below hW (by rw [HN4.out]; omega)
          ⟨hTr.cell 0 (by simp), hTr.cell 1 (by simp), hTr.cell 2 (by simp), hTr.cell 3 (by simp), hTr.cell 4 (by simp), hTr.cell 5 (by simp)⟩
        go_wp2_with fail
        refine CL.out.mono ?_
        rintro e w5 ⟨rfl, rfl⟩
        have ST7 : Hid (∀ W, Below (w3.alloc (.cells #[.int .i64 c.cap, .int .i64 c.pol, .bool true, .slice pb c.buf.length cb, .slice pw c.wait.length cw, .int .i64 c.dropped] 30)).heap.size (w3.alloc (.cells #[.int .i64 c.cap, .int .i64 c.pol, .bool true, .slice pb c.buf.length cb, .slice pw c.wait.length cw, .int .i64 c.dropped] 30)) W → Calls Tryd.prog 14 #[.pointer (some ⟨w.heap.size, 0, none⟩)] W (statePost W c)) := Lib.hid fun W hW => state_any w.heap.size ns c W (HO4.out.below hW).rep (by omega)
        have hz4 := HN4.out
        go_wp2_with fail
        go_region_held3 (fun w' => w'.cell? ⟨w3.heap.size, 0, none⟩ = some (.int .i64 c.cap) ∧ w'.cell? ⟨w3.heap.size, 1, none⟩ = some (.int .i64 c.pol) ∧ w'.cell? ⟨w3.heap.size, 2, none⟩ = some (.bool true) ∧ w'.cell? ⟨w3.heap.size, 3, none⟩ = some (.slice pb c.buf.length cb) ∧ w'.cell? ⟨w3.heap.size, 4, none⟩ = some (.slice pw c.wait.length cw) ∧ w'.cell? ⟨w3.heap.size, 5, none⟩ = some (.int .i64 c.dropped))
          (first | exact HTS.out _ hB49 | exact HTS.out _ hB48 | exact HTS.out _ hB47 | go_keep)
          (first
            | (go_at_call 14; refine (ST7.out _ (by first | exact Below.drew (Below.refl _ _) | exact below_drewN (Below.refl _ _) _)).mono ?_; rintro e w7 ⟨bv7, wv7, he7, hbv7, hwv7, hb7⟩; obtain ⟨pb7, cb7, rfl, -⟩ := hbv7.form2; obtain ⟨pw7, cw7, rfl, -⟩ := hwv7.form2; rw [hc] at he7; obtain rfl := he7; have hB47 : Below (w3.alloc (.cells #[.int .i64 c.cap, .int .i64 c.pol, .bool true, .slice pb c.buf.length cb, .slice pw c.wait.length cw, .int .i64 c.dropped] 30)).heap.size (w3.alloc (.cells #[.int .i64 c.cap, .int .i64 c.pol, .bool true, .slice pb c.buf.length cb, .slice pw c.wait.length cw, .int .i64 c.dropped] 30)) w7 := ⟨hb7.os, hb7.tape, hb7.output, hb7.size, hb7.block⟩)
            | (go_at_call 13; refine (same_any c.cap c.pol c.dropped true _ _ _ _ _ _ _ _ c.buf c.wait _ (by omega) (by omega) hbv7 (HBV.out.below hB47) hwv7 (HWV.out.below hB47)).mono ?_; rintro e w8 ⟨rfl, hb8⟩; have hB48 := hB47.trans (hb8.mono hB47.size))
            | (go_at_call 12; refine (awake_any _ (HO4.out.env.below hB48)).mono ?_; rintro e w9 ⟨rfl, hb9⟩; have hB49 := hB48.trans (hb9.mono hB48.size)))
        go_wp2
        go_ret
        exact ⟨rfl, HB4.out.trans (hB49.mono (by rw [HN4.out]; omega))⟩
      | false =>
        rw [hc] at he3
        obtain rfl := he3
        have HO4 := Lib.hid ((HO.out.below hb3).below (one w3 (.cells #[.int .i64 c.cap, .int .i64 c.pol, .bool false, .slice pb c.buf.length cb, .slice pw c.wait.length cw, .int .i64 c.dropped] 30)))
        have HBV := Lib.hid (hbv.below (one w3 (.cells #[.int .i64 c.cap, .int .i64 c.pol, .bool false, .slice pb c.buf.length cb, .slice pw c.wait.length cw, .int .i64 c.dropped] 30)))
        have HWV := Lib.hid (hwv.below (one w3 (.cells #[.int .i64 c.cap, .int .i64 c.pol, .bool false, .slice pb c.buf.length cb, .slice pw c.wait.length cw, .int .i64 c.dropped] 30)))
        have HB4 := Lib.hid ((HB.out.trans (hb3.mono hzB)).alloc (by omega) (.cells #[.int .i64 c.cap, .int .i64 c.pol, .bool false, .slice pb c.buf.length cb, .slice pw c.wait.length cw, .int .i64 c.dropped] 30))
        have HT := Lib.hid (Blk.new w3 #[.int .i64 c.cap, .int .i64 c.pol, .bool false, .slice pb c.buf.length cb, .slice pw c.wait.length cw, .int .i64 c.dropped] 30)
        have hn4 : (w3.alloc (.cells #[.int .i64 c.cap, .int .i64 c.pol, .bool false, .slice pb c.buf.length cb, .slice pw c.wait.length cw, .int .i64 c.dropped] 30)).heap.size = w3.heap.size + 1 := World.size_alloc _ _
        have HN4 := Lib.hid hn4
        clear hbv hwv hb3 hn4
        have CL := Lib.hid (close_any w.heap.size ns c _ HO4.out.rep HO4.out.env hc (by omega))
        go_wp2_with fail
        refine CL.out.mono ?_
        rintro e w5 ⟨dv, rfl, hd5, hR5, hF5⟩
        obtain ⟨pd, cd, hdv, -⟩ := (show RowAt dealCells 7 57 _ _ dv (c.wait.map closedDeal) from hd5.1).form2
        rw [List.length_map] at hdv
        subst hdv
        have HC5 : Hid (Cls w w.heap.size c.buf c w3.heap.size pb pw pd cb cw cd { c with closed := true, wait := [] } w5) := Lib.hid
          ⟨⟨hR5, by simp, HO4.out.env.fr hF5 (by simp; omega), hpos, by simp, HO4.out.dr⟩,
           (HT.out.fr hF5 (by simp; omega)).cell 3 (by simp), (HT.out.fr hF5 (by simp; omega)).cell 4 (by simp),
           (RowAt.fr HBV.out hF5 (fun k hk => by have := RowAt.block HBV.out k hk; simp; omega)).weaken (by omega),
           (RowAt.fr HWV.out hF5 (fun k hk => by have := RowAt.block HWV.out k hk; simp; omega)).weaken (by omega),
           RowAt.weaken (show RowAt dealCells 7 57 _ _ _ (c.wait.map closedDeal) from hd5.1) (by rw [HN4.out]; omega),
           ⟨by omega, by have := hF5.size; rw [HN4.out] at this; omega⟩,
           HB4.out.trans (hF5.below (by simp) (by rw [HN4.out]; omega)), rfl, Nat.le_refl _⟩
        have hT2 : w5.cell? ⟨w3.heap.size, 2, none⟩ = some (.bool false) := (HT.out.fr hF5 (by simp; omega)).cell 2 (by simp)
        have hT4 := HC5.out.s4
        have hS5 := HC5.out.ls.2
        clear hd5 hR5 hF5 CL HT HBV HWV HO4 HB4 HN4 HO HB hc
        have ST5 := Lib.hid (state_any w.heap.size [] { c with closed := true, wait := [] } w5 HC5.out.own.rep (by simp))
        go_wp2_with fail
        refine ST5.out.mono ?_
        rintro e w6 ⟨bv6, wv6, he6, hbv6, hwv6, hb6⟩
        obtain ⟨pb6, cb6, rfl, -⟩ := hbv6.form2
        obtain ⟨pw6, cw6, rfl, -⟩ := hwv6.form2
        unfold stateV at he6
        obtain rfl := he6
        have HC6 := Lib.hid (HC5.out.below hb6)
        clear hbv6 hwv6 hb6 ST5 HC5 hT2 hT4 hS5
        go_wp2_with fail
        rw [field_wait5]
        go_wp2_with fail
        go_loopw [88] (fun vj wt => ∃ j : Nat, j ≤ c.wait.length ∧ vj = .int .i64 j ∧ Cls w w.heap.size c.buf c w3.heap.size pb pw pd cb cw cd { c with closed := true, wait := [] } wt) (fun vj _ => c.wait.length - (intOf vj).toNat)
        case atStart => exact ⟨0, Nat.zero_le _, rfl, HC6.out⟩
        case round =>
          obtain ⟨j, hj, rfl, hC⟩ := hrel
          have HC := Lib.hid hC
          have hzw := hC.bel.size
          have hS := hC.ls.2
          have s4 := hC.s4
          clear hC HC6
          by_cases hltj : j < c.wait.length
          · obtain ⟨y, hy⟩ : ∃ y, c.wait[j]? = some y := ⟨_, List.getElem?_eq_getElem hltj⟩
            obtain ⟨g, cw', hg, hg1, hg2, -, hg3⟩ := RowAt.pos HC.out.ws (by omega)
            cases hg
            obtain ⟨gd, cd', hgd, hgd1, hgd2, -, hgd3⟩ := RowAt.pos HC.out.ds (by simp; omega)
            rw [List.length_map] at hgd
            cases hgd
            obtain ⟨u0, -, -, -, -⟩ := WsAt.cells HC.out.ws hy
            obtain ⟨d0, d1, d2, d3, d4, d5, d6⟩ := closed_cells HC.out.ds hy
            obtain ⟨yt, ys, yv⟩ := y
            have HY : Hid (c.wait[j]? = some ⟨yt, ys, yv⟩) := Lib.hid hy
            clear hy
            have ij0 : (0 : Int) ≤ (j : Int) := by omega
            have ij1 : (j : Int) < (c.wait.length : Int) := by omega
            have hnX : (wr.alloc (.cells #[.int .i64 yt, .int .i64 0, .int .i64 0, .int .i64 0, .string noS, .int .i64 1, .string closedS] 57)).heap.size = wr.heap.size + 1 := World.size_alloc _ _
            have HNX := Lib.hid hnX
            have KS : Hid (∀ W, Below (wr.alloc (.cells #[.int .i64 yt, .int .i64 0, .int .i64 0, .int .i64 0, .string noS, .int .i64 1, .string closedS] 57)).heap.size (wr.alloc (.cells #[.int .i64 yt, .int .i64 0, .int .i64 0, .int .i64 0, .string noS, .int .i64 1, .string closedS] 57)) W → W.cell? ⟨wr.heap.size, 0, none⟩ = some (.int .i64 yt) ∧ W.cell? ⟨wr.heap.size, 1, none⟩ = some (.int .i64 0) ∧ W.cell? ⟨wr.heap.size, 2, none⟩ = some (.int .i64 0) ∧ W.cell? ⟨wr.heap.size, 3, none⟩ = some (.int .i64 0) ∧ W.cell? ⟨wr.heap.size, 4, none⟩ = some (.string noS) ∧ W.cell? ⟨wr.heap.size, 5, none⟩ = some (.int .i64 1) ∧ W.cell? ⟨wr.heap.size, 6, none⟩ = some (.string closedS) ∧ W.cell? ⟨w3.heap.size, 4, none⟩ = some (.slice (some ⟨g, 0, none⟩) c.wait.length cw) ∧ W.cell? ⟨g, j * 5, none⟩ = some (.int .i64 yt)) := Lib.hid fun W hW =>
              have hX := (Blk.new wr #[.int .i64 yt, .int .i64 0, .int .i64 0, .int .i64 0, .string noS, .int .i64 1, .string closedS] 57).below hW (by rw [HNX.out]; omega)
              have hK := HC.out.below ((one wr _).trans (hW.mono (by rw [HNX.out]; omega)))
              ⟨hX.cell 0 (by simp), hX.cell 1 (by simp), hX.cell 2 (by simp), hX.cell 3 (by simp), hX.cell 4 (by simp), hX.cell 5 (by simp), hX.cell 6 (by simp), hK.s4, (WsAt.cells hK.ws HY.out).1⟩
            have C23 : Hid (∀ W, Below (wr.alloc (.cells #[.int .i64 yt, .int .i64 0, .int .i64 0, .int .i64 0, .string noS, .int .i64 1, .string closedS] 57)).heap.size (wr.alloc (.cells #[.int .i64 yt, .int .i64 0, .int .i64 0, .int .i64 0, .string noS, .int .i64 1, .string closedS] 57)) W → Calls Tryd.prog 23 #[] W (fun e w' => e = .returned (.agg #[.int .i64 1, .string closedS]) ∧ Below W.heap.size W w')) := Lib.hid fun W hW => closed_any W ((HC.out.own.env.below (one wr _)).below hW)
            clear hnX
            go_wp2_with fail
            go_region_held3 (fun w' => w'.cell? ⟨wr.heap.size, 0, none⟩ = some (.int .i64 yt) ∧ w'.cell? ⟨wr.heap.size, 1, none⟩ = some (.int .i64 0) ∧ w'.cell? ⟨wr.heap.size, 2, none⟩ = some (.int .i64 0) ∧ w'.cell? ⟨wr.heap.size, 3, none⟩ = some (.int .i64 0) ∧ w'.cell? ⟨wr.heap.size, 4, none⟩ = some (.string noS) ∧ w'.cell? ⟨wr.heap.size, 5, none⟩ = some (.int .i64 1) ∧ w'.cell? ⟨wr.heap.size, 6, none⟩ = some (.string closedS) ∧ w'.cell? ⟨w3.heap.size, 4, none⟩ = some (.slice (some ⟨g, 0, none⟩) c.wait.length cw) ∧ w'.cell? ⟨g, j * 5, none⟩ = some (.int .i64 yt))
              (first | exact KS.out _ hB23 | go_keep)
              (first | (go_at_call 23; refine (C23.out _ (by first | exact Below.refl _ _ | exact Below.drew (Below.refl _ _) | exact below_drewN (Below.refl _ _) _)).mono ?_; rintro e w7 ⟨rfl, hb7⟩; have hB23 : Below (wr.alloc (.cells #[.int .i64 yt, .int .i64 0, .int .i64 0, .int .i64 0, .string noS, .int .i64 1, .string closedS] 57)).heap.size (wr.alloc (.cells #[.int .i64 yt, .int .i64 0, .int .i64 0, .int .i64 0, .string noS, .int .i64 1, .string closedS] 57)) w7 := ⟨hb7.os, hb7.tape, hb7.output, hb7.size, hb7.block⟩))
            have HN : Hid (Cls w w.heap.size c.buf c w3.heap.size pb (some ⟨g, 0, none⟩) (some ⟨gd, 0, none⟩) cb cw cd { c with closed := true, wait := [] } w7) := Lib.hid (HC.out.below ((one wr _).trans (hB23.mono (by rw [HNX.out]; omega))))
            clear hB23 hb7 KS C23
            go_wp2
            go_roundw
            case rel => exact ⟨j + 1, by omega, by go_num, HN.out⟩
            case measure => simp [intOf]; omega
          · obtain rfl : j = c.wait.length := by omega
            clear s4 hS
            go_wp2_with fail
            refine (number_any 1 _).mono ?_
            rintro e w8 ⟨rfl, hb8⟩
            have HC8 := Lib.hid (HC.out.below hb8)
            have OO := Lib.hid (offer_any w.heap.size [] { c with closed := true, wait := [] } 1 1 noS w8 HC8.out.own.rep HC8.out.own.env (by decide +kernel) (by decide) (Nat.lt_trans HC8.out.own.dr (by decide)))
            unfold offerPost at OO
            rw [show Cn.offer { c with closed := true, wait := [] } ⟨1, 1, noS⟩ = ({ c with closed := true, wait := [] }, [], true, true) from rfl] at OO
            clear hb8
            go_wp2_with fail
            refine OO.out.mono ?_
            rintro e w9 ⟨ns9, dv, hs9, rfl, hd9, hR9, hF9⟩
            obtain rfl := hd9.2.2 rfl
            obtain rfl : ns9 = [] := List.eq_nil_iff_forall_not_mem.2 fun x hx => by simpa using hs9 x hx
            have HC9 : Hid (Cls w w.heap.size c.buf c w3.heap.size pb pw pd cb cw cd { c with closed := true, wait := [] } w9) := Lib.hid (HC8.out.fr hF9 hR9 rfl (HC8.out.own.env.fr hF9 (by simp; omega)))
            have hz9 := HC9.out.bel.size
            clear hs9 hd9 hR9 hF9 OO HC8 HC
            have HNY : Hid ((w9.alloc (.cells #[.int .i64 1, .string closedS] 45)).heap.size = w9.heap.size + 1) := Lib.hid (World.size_alloc _ _)
            have KY : Hid (∀ W, Below (w9.alloc (.cells #[.int .i64 1, .string closedS] 45)).heap.size (w9.alloc (.cells #[.int .i64 1, .string closedS] 45)) W → W.cell? ⟨w9.heap.size, 0, none⟩ = some (.int .i64 1) ∧ W.cell? ⟨w9.heap.size, 1, none⟩ = some (.string closedS)) := Lib.hid fun W hW =>
              have hX := (Blk.new w9 #[.int .i64 1, .string closedS] 45).below hW (by rw [HNY.out]; omega)
              ⟨hX.cell 0 (by simp), hX.cell 1 (by simp)⟩
            have C23 : Hid (∀ W, Below (w9.alloc (.cells #[.int .i64 1, .string closedS] 45)).heap.size (w9.alloc (.cells #[.int .i64 1, .string closedS] 45)) W → Calls Tryd.prog 23 #[] W (fun e w' => e = .returned (.agg #[.int .i64 1, .string closedS]) ∧ Below W.heap.size W w')) := Lib.hid fun W hW => closed_any W ((HC9.out.own.env.below (one w9 _)).below hW)
            go_wp2_with fail
            go_region_held3 (fun w' => w'.cell? ⟨w9.heap.size, 0, none⟩ = some (.int .i64 1) ∧ w'.cell? ⟨w9.heap.size, 1, none⟩ = some (.string closedS))
              (first | exact KY.out _ hB23 | go_keep)
              (first | (go_at_call 23; refine (C23.out _ (by first | exact Below.refl _ _ | exact Below.drew (Below.refl _ _) | exact below_drewN (Below.refl _ _) _)).mono ?_; rintro e w10 ⟨rfl, hb7⟩; have hB23 : Below (w9.alloc (.cells #[.int .i64 1, .string closedS] 45)).heap.size (w9.alloc (.cells #[.int .i64 1, .string closedS] 45)) w10 := ⟨hb7.os, hb7.tape, hb7.output, hb7.size, hb7.block⟩))
            have HC10 : Hid (Cls w w.heap.size c.buf c w3.heap.size pb pw pd cb cw cd { c with closed := true, wait := [] } w10) := Lib.hid (HC9.out.below ((one w9 _).trans (hB23.mono (by rw [HNY.out]; omega))))
            have s3 := HC10.out.s3
            have hS := HC10.out.ls.2
            clear hB23 hb7 KY C23 HC9
            go_wp2_with fail
            go_loopw [137] (fun vj wt => ∃ j : Nat, j ≤ c.buf.length ∧ vj = .int .i64 j ∧ Cls w w.heap.size (c.buf.drop j) c w3.heap.size pb pw pd cb cw cd { c with closed := true, wait := [], buf := c.buf.drop j } wt) (fun vj _ => c.buf.length - (intOf vj).toNat)
            case atStart => exact ⟨0, Nat.zero_le _, rfl, HC10.out⟩
            case round =>
              obtain ⟨j, hj, rfl, hC⟩ := hrel
              have hzw := hC.bel.size
              clear s3 hS HC10
              by_cases hltj : j < c.buf.length
              · have HC := Lib.hid hC
                clear hC
                obtain ⟨y, hy⟩ : ∃ y, c.buf[j]? = some y := ⟨_, List.getElem?_eq_getElem hltj⟩
                have hdrop : c.buf.drop j = y :: c.buf.drop (j + 1) := by
                  rw [List.drop_eq_getElem_cons hltj]
                  rw [List.getElem?_eq_getElem hltj] at hy
                  rw [Option.some.inj hy]
                obtain ⟨g, cb', hg, hg1, hg2, -, hg3⟩ := RowAt.pos HC.out.vs (by omega)
                cases hg
                obtain ⟨v0, v1, v2⟩ := VsAt.cells HC.out.vs hy
                obtain ⟨yk, yn, ys⟩ := y
                have ij0 : (0 : Int) ≤ (j : Int) := by omega
                have ij1 : (j : Int) < (c.buf.length : Int) := by omega
                have HX := Lib.hid (Blk.new wr #[.int .i64 yk, .int .i64 yn, .string ys] 37)
                have HCX := Lib.hid (HC.out.below (one wr (.cells #[.int .i64 yk, .int .i64 yn, .string ys] 37)))
                have TT := Lib.hid (take_any w.heap.size [] { c with closed := true, wait := [], buf := c.buf.drop j } (wr.alloc (.cells #[.int .i64 yk, .int .i64 yn, .string ys] 37)) HCX.out.own.rep HCX.out.own.env HCX.out.own.positive)
                unfold takeFPost at TT
                rw [show Cn.take { c with closed := true, wait := [], buf := c.buf.drop j } = ({ c with closed := true, wait := [], buf := c.buf.drop (j + 1) }, ⟨yk, yn, ys⟩, [], false, true) from by simp [Cn.take, hdrop, Cn.pick]] at TT
                have hbw : w.heap.size < wr.heap.size := HC.out.own.rep.lt _ (by simp)
                clear hy hdrop
                go_wp2_with fail
                refine TT.out.mono ?_
                rintro e w11 ⟨ns11, dv, hs11, rfl, hd11, hR11, hF11⟩
                obtain rfl := hd11.2.2 rfl
                obtain rfl : ns11 = [] := List.eq_nil_iff_forall_not_mem.2 fun x hx => by simpa using hs11 x hx
                have bX := HX.out.fr hF11 (by simp; omega)
                have x0 : w11.cell? ⟨wr.heap.size, 0, none⟩ = some (.int .i64 yk) := bX.cell 0 (by simp)
                have x1 : w11.cell? ⟨wr.heap.size, 1, none⟩ = some (.int .i64 yn) := bX.cell 1 (by simp)
                have x2 : w11.cell? ⟨wr.heap.size, 2, none⟩ = some (.string ys) := bX.cell 2 (by simp)
                have hxl := bX.lt
                have HN : Hid (Cls w w.heap.size (c.buf.drop (j + 1)) c w3.heap.size (some ⟨g, 0, none⟩) pw pd cb cw cd { c with closed := true, wait := [], buf := c.buf.drop (j + 1) } w11) := Lib.hid (HCX.out.fr hF11 hR11 rfl (HCX.out.own.env.fr hF11 (by simp; omega)))
                clear hs11 hd11 hR11 hF11 bX TT HCX HX HC v0 v1 v2
                go_wp2_with fail
                go_roundw
                case rel => exact ⟨j + 1, by omega, by go_num, HN.out.below ((one _ _).alloc (by simp) _)⟩
                case measure => simp [intOf]; omega
              · obtain rfl : j = c.buf.length := by omega
                have HC : Hid (Cls w w.heap.size [] c w3.heap.size pb pw pd cb cw cd { c with closed := true, wait := [], buf := [] } wr) := Lib.hid (by rw [List.drop_length] at hC; exact hC)
                clear hC
                have hbw : w.heap.size < wr.heap.size := HC.out.own.rep.lt _ (by simp)
                have TT := Lib.hid (take_any w.heap.size [] { c with closed := true, wait := [], buf := [] } wr HC.out.own.rep HC.out.own.env HC.out.own.positive)
                unfold takeFPost at TT
                rw [show Cn.take { c with closed := true, wait := [], buf := [] } = ({ c with closed := true, wait := [], buf := [] }, Cn.zero, [], true, true) from rfl] at TT
                go_wp2_with fail
                refine TT.out.mono ?_
                rintro e w11 ⟨ns11, dv, hs11, rfl, hd11, hR11, hF11⟩
                obtain rfl := hd11.2.2 rfl
                obtain rfl : ns11 = [] := List.eq_nil_iff_forall_not_mem.2 fun x hx => by simpa using hs11 x hx
                have HN : Hid (Cls w w.heap.size [] c w3.heap.size pb pw pd cb cw cd { c with closed := true, wait := [], buf := [] } w11) := Lib.hid (HC.out.fr hF11 hR11 rfl (HC.out.own.env.fr hF11 (by simp; omega)))
                have hz11 := HN.out.bel.size
                clear hs11 hd11 hR11 hF11 TT HC
                have HNZ : Hid (((w11.alloc (.cells #[.int .i64 0, .int .i64 0, .string noS] 37)).alloc (.cells #[.int .i64 1, .string closedS] 45)).heap.size = w11.heap.size + 2) := Lib.hid (by simp)
                have KZ : Hid (∀ W, Below ((w11.alloc (.cells #[.int .i64 0, .int .i64 0, .string noS] 37)).alloc (.cells #[.int .i64 1, .string closedS] 45)).heap.size ((w11.alloc (.cells #[.int .i64 0, .int .i64 0, .string noS] 37)).alloc (.cells #[.int .i64 1, .string closedS] 45)) W → W.cell? ⟨w11.heap.size + 1, 0, none⟩ = some (.int .i64 1) ∧ W.cell? ⟨w11.heap.size + 1, 1, none⟩ = some (.string closedS)) := Lib.hid fun W hW =>
                  have hX := (Blk.new (w11.alloc (.cells #[.int .i64 0, .int .i64 0, .string noS] 37)) #[.int .i64 1, .string closedS] 45).below hW (by rw [HNZ.out]; simp)
                  ⟨by have := hX.cell 0 (by simp); simpa using this, by have := hX.cell 1 (by simp); simpa using this⟩
                have HCZ : Hid (∀ W, Below ((w11.alloc (.cells #[.int .i64 0, .int .i64 0, .string noS] 37)).alloc (.cells #[.int .i64 1, .string closedS] 45)).heap.size ((w11.alloc (.cells #[.int .i64 0, .int .i64 0, .string noS] 37)).alloc (.cells #[.int .i64 1, .string closedS] 45)) W → Cls w w.heap.size [] c w3.heap.size pb pw pd cb cw cd { c with closed := true, wait := [], buf := [] } W) := Lib.hid fun W hW => (HN.out.below ((one w11 _).alloc (by simp) _)).below hW
                go_wp2_with fail
                go_region_held3 (fun w' => w'.cell? ⟨w11.heap.size + 1, 0, none⟩ = some (.int .i64 1) ∧ w'.cell? ⟨w11.heap.size + 1, 1, none⟩ = some (.string closedS))
                  (first | exact KZ.out _ hB12 | exact KZ.out _ hB23 | go_keep)
                  (first
                    | (go_at_call 23; refine (closed_any _ (HCZ.out _ (by first | exact Below.refl _ _ | exact Below.drew (Below.refl _ _) | exact below_drewN (Below.refl _ _) _)).own.env).mono ?_; rintro e w12 ⟨rfl, hb7⟩; have hB23 : Below ((w11.alloc (.cells #[.int .i64 0, .int .i64 0, .string noS] 37)).alloc (.cells #[.int .i64 1, .string closedS] 45)).heap.size ((w11.alloc (.cells #[.int .i64 0, .int .i64 0, .string noS] 37)).alloc (.cells #[.int .i64 1, .string closedS] 45)) w12 := ⟨hb7.os, hb7.tape, hb7.output, hb7.size, hb7.block⟩)
                    | (go_at_call 20; refine (close_closed w.heap.size [] { c with closed := true, wait := [], buf := [] } _ (HCZ.out _ hB23).own.rep rfl).mono ?_; rintro e w13 ⟨rfl, rfl⟩)
                    | (go_at_call 12; refine (awake_any _ (HCZ.out _ hB23).own.env).mono ?_; rintro e w14 ⟨rfl, hb14⟩; have hB12 := hB23.trans (hb14.mono hB23.size)))
                have HE14 := Lib.hid (HCZ.out _ hB12).bel
                go_wp2
                go_ret
                exact ⟨rfl, HE14.out⟩
end Go.Proofs.YtlibkhndekgnfaaDoor
