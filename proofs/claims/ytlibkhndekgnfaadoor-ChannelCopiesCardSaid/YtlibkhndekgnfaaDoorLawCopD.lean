/- ChannelCopies returns true: the rounds. -/
import Derived.Test.YtlibkhndekgnfaaDoorCopRel
namespace Go.Proofs.YtlibkhndekgnfaaDoor
open Go.RowKit

set_option maxRecDepth 100000 in
set_option maxHeartbeats 8000000 in
theorem law_copies_D (k : Nat) (p : Int) (q : Option Addr) (cp : Nat) (L : List Op) (q2 : Option Addr) (cp2 : Nat) (M : List Op) (w : World) (henv : Env w) (hk : k ≤ 16) (hp0 : 0 ≤ p) (hp2 : p ≤ 2) (hL : OpsIn w q cp L) (hM : OpsIn w q2 cp2 M) (h60 : L.length ≤ 60) (h30 : M.length ≤ 30) :
    Calls Tryd.prog 6 #[.agg #[.int .i64 k, .int .i64 p], .slice q L.length cp, .slice q2 M.length cp2] w fun e w' => e = .returned (.bool true) ∧ Below w.heap.size w w' := by
  have NN := Lib.hid (new_ok k p (w.alloc (.cells #[.int .i64 k, .int .i64 p] 63)) hk hp0 hp2)
  have HE := Lib.hid henv
  have HL := Lib.hid hL
  have HM := Lib.hid hM
  have hpos := henv.pos
  obtain ⟨m, hm⟩ : ∃ m : Nat, m = min L.length 60 := ⟨_, rfl⟩
  obtain ⟨m2, hm2⟩ : ∃ m2 : Nat, m2 = min M.length 30 := ⟨_, rfl⟩
  have hm60 : m ≤ 60 := by omega
  have hmL : m ≤ L.length := by omega
  have hm30 : m2 ≤ 30 := by omega
  have hmM : m2 ≤ M.length := by omega
  have hmA : m ≤ L.length := by omega
  have hmB : L.length ≤ m := by omega
  have hmA2 : m2 ≤ M.length := by omega
  have hmB2 : M.length ≤ m2 := by omega
  have hLc := hL.le
  have hcm := hL.cap
  have hMc := hM.le
  have hcm2 := hM.cap
  unfold maxLen at hcm hcm2
  clear henv hL hM hm hm2
  go_enter Tryd.func6, Tryd.ntmps6
  go_wp2_with fail
  refine NN.out.mono ?_
  rintro e w1 ⟨rfl, hR1, hB1⟩
  rw [World.size_alloc] at hR1
  have hB1' : Below w.heap.size w w1 := (one w _).trans (hB1.mono (by simp))
  have HI : Hid (CopRel1 w 0 w1) := Lib.hid ⟨[], newSt k p, ⟨hR1, by simp, HE.out.below hB1', hpos, by simp [newSt], by simp [newSt]⟩, hB1', by simp [newSt]⟩
  clear hR1 hB1 hB1' NN
  go_wp2_with fail
  go_loopw [38] (fun vk wr => ∃ i : Nat, i ≤ m ∧ vk = .int .i64 i ∧ CopRel1 w i wr) (fun vk _ => m - (intOf vk).toNat)
  case atStart => exact ⟨0, Nat.zero_le _, rfl, HI.out⟩
  case round =>
    obtain ⟨i, hi, rfl, ns, c, hO, hB, hdr⟩ := hrel
    have HO : Hid (Own w wr (w.heap.size + 1) ns c) := Lib.hid hO
    have HB := Lib.hid hB
    have hzB := hB.size
    clear hO hB
    by_cases hlt : i < m
    · obtain ⟨x, hx⟩ : ∃ x, L[i]? = some x := ⟨_, List.getElem?_eq_getElem (by omega)⟩
      obtain ⟨ab, ao, hq, hab, q0, q1, q2, q3, q4, q5, hsz⟩ := HL.out.cells hx HB.out
      subst hq
      have habr : ab < wr.heap.size := by omega
      have i0 : (0 : Int) ≤ (i : Int) := by omega
      have RR := Lib.hid (HO.out.call x hsz (.cells #[.int .i64 x.kd, .int .i64 x.t, .bool x.send, .int .i64 x.v.k, .int .i64 x.v.n, .string x.v.s] 39))
      clear hx
      go_wp2_with fail
      refine RR.out.mono ?_
      rintro e w2 hst
      obtain ⟨rfl, ns2, hO2, hB2, -, -, hd2⟩ := HO.out.run hzB (by omega) hst
      have HN : Hid (CopRel1 w (i + 1) w2) := Lib.hid ⟨ns2, _, hO2, HB.out.trans hB2, by omega⟩
      clear hst hO2 hB2 hd2
      go_wp2
      go_roundw
      case rel => exact ⟨i + 1, by omega, by go_num, HN.out⟩
      case measure => simp [intOf]; omega
    · obtain rfl : i = m := by omega
      have hwl := HO.out.wl
      have ST := Lib.hid (state_any (w.heap.size + 1) ns c wr HO.out.rep (by omega))
      go_wp2_with fail
      refine ST.out.mono ?_
      rintro e w3 ⟨bv, wv, he3, hbv, hwv, hb3⟩
      obtain ⟨pb, cb, rfl, -⟩ := hbv.form2
      obtain ⟨pw, cw, rfl, -⟩ := hwv.form2
      obtain rfl := he3
      have hz3 := hb3.size
      have HO4 := Lib.hid ((HO.out.below hb3).below (one w3 (.cells #[.int .i64 c.cap, .int .i64 c.pol, .bool c.closed, .slice pb c.buf.length cb, .slice pw c.wait.length cw, .int .i64 c.dropped] 30)))
      have HBV := Lib.hid (hbv.below (one w3 (.cells #[.int .i64 c.cap, .int .i64 c.pol, .bool c.closed, .slice pb c.buf.length cb, .slice pw c.wait.length cw, .int .i64 c.dropped] 30)))
      have HWV := Lib.hid (hwv.below (one w3 (.cells #[.int .i64 c.cap, .int .i64 c.pol, .bool c.closed, .slice pb c.buf.length cb, .slice pw c.wait.length cw, .int .i64 c.dropped] 30)))
      have HB4 := Lib.hid ((HB.out.trans (hb3.mono hzB)).alloc (by omega) (.cells #[.int .i64 c.cap, .int .i64 c.pol, .bool c.closed, .slice pb c.buf.length cb, .slice pw c.wait.length cw, .int .i64 c.dropped] 30))
      have HT := Lib.hid (Blk.new w3 #[.int .i64 c.cap, .int .i64 c.pol, .bool c.closed, .slice pb c.buf.length cb, .slice pw c.wait.length cw, .int .i64 c.dropped] 30)
      have CC := Lib.hid (copy_any (w.heap.size + 1) ns c _ HO4.out.rep)
      have hn4 : (w3.alloc (.cells #[.int .i64 c.cap, .int .i64 c.pol, .bool c.closed, .slice pb c.buf.length cb, .slice pw c.wait.length cw, .int .i64 c.dropped] 30)).heap.size = w3.heap.size + 1 := World.size_alloc _ _
      have HN4 := Lib.hid hn4
      clear hbv hwv hb3 ST hn4
      go_wp2_with fail
      refine CC.out.mono ?_
      rintro e w5 ⟨d, ms, rfl, hRd, hge, hb5⟩
      rw [HN4.out] at hge
      have HI2 : Hid (CopRel2 w3.heap.size _ d c M 0 w5) := Lib.hid ⟨ms, ⟨hRd, fun x hx => by rw [HN4.out]; exact hge x hx, HO4.out.env.below hb5, by rw [HN4.out]; omega, by show c.wait.length ≤ 200; exact hwl, by show c.dropped < _; omega⟩, hb5, by show c.dropped ≤ 60 + 0; omega⟩
      have hz5 := hb5.size
      rw [HN4.out] at hz5
      clear hRd hge hb5 CC
      go_wp2_with fail
      go_loopw [58] (fun vk wt => ∃ i : Nat, i ≤ m2 ∧ vk = .int .i64 i ∧ CopRel2 w3.heap.size (w3.alloc (.cells #[.int .i64 c.cap, .int .i64 c.pol, .bool c.closed, .slice pb c.buf.length cb, .slice pw c.wait.length cw, .int .i64 c.dropped] 30)) d c M i wt) (fun vk _ => m2 - (intOf vk).toNat)
      case atStart => exact ⟨0, Nat.zero_le _, rfl, HI2.out⟩
      case round =>
        obtain ⟨i, hi, rfl, ms, hO, hB, hdr2⟩ := hrel
        have HO2 : Hid (Own (w3.alloc (.cells #[.int .i64 c.cap, .int .i64 c.pol, .bool c.closed, .slice pb c.buf.length cb, .slice pw c.wait.length cw, .int .i64 c.dropped] 30)) wr d ms (steps c (M.take i))) := Lib.hid hO
        have HB2 := Lib.hid hB
        have hzB2 := hB.size
        have HBw := Lib.hid (HB4.out.trans (hB.mono (by rw [HN4.out]; omega)))
        have hzw : w.heap.size ≤ wr.heap.size := HBw.out.size
        clear hO hB
        by_cases hlt : i < m2
        · obtain ⟨x, hx⟩ : ∃ x, M[i]? = some x := ⟨_, List.getElem?_eq_getElem (by omega)⟩
          obtain ⟨ab, ao, hq, hab, q0, q1, q2, q3, q4, q5, hsz⟩ := HM.out.cells hx HBw.out
          subst hq
          have habr : ab < wr.heap.size := by omega
          have i0 : (0 : Int) ≤ (i : Int) := by omega
          have RR := Lib.hid (HO2.out.call x hsz (.cells #[.int .i64 x.kd, .int .i64 x.t, .bool x.send, .int .i64 x.v.k, .int .i64 x.v.n, .string x.v.s] 39))
          have HX := Lib.hid (steps_succ (c := c) hx)
          clear hx
          go_wp2_with fail
          refine RR.out.mono ?_
          rintro e w6 hst
          obtain ⟨rfl, ns2, hO3, hB3, -, -, hd3⟩ := HO2.out.run hzB2 (by omega) hst
          have HN : Hid (CopRel2 w3.heap.size (w3.alloc (.cells #[.int .i64 c.cap, .int .i64 c.pol, .bool c.closed, .slice pb c.buf.length cb, .slice pw c.wait.length cw, .int .i64 c.dropped] 30)) d c M (i + 1) w6) := Lib.hid ⟨ns2, by rw [HX.out]; exact hO3, HB2.out.trans hB3, by rw [HX.out]; omega⟩
          clear hst hO3 hB3 hd3
          go_wp2
          go_roundw
          case rel => exact ⟨i + 1, by omega, by go_num, HN.out⟩
          case measure => simp [intOf]; omega
        · obtain rfl : m2 = i := by omega
          have HO5 := Lib.hid (HO4.out.below HB2.out)
          have hbl := HO5.out.rep.cells.2.2.2.2.2.2.2.1
          have hcp := HO5.out.rep.cells.2.2.2.2.2.2.2.2.1
          have HTS : Hid (∀ W, Below (w3.alloc (.cells #[.int .i64 c.cap, .int .i64 c.pol, .bool c.closed, .slice pb c.buf.length cb, .slice pw c.wait.length cw, .int .i64 c.dropped] 30)).heap.size (w3.alloc (.cells #[.int .i64 c.cap, .int .i64 c.pol, .bool c.closed, .slice pb c.buf.length cb, .slice pw c.wait.length cw, .int .i64 c.dropped] 30)) W → W.cell? ⟨w3.heap.size, 0, none⟩ = some (.int .i64 c.cap) ∧ W.cell? ⟨w3.heap.size, 1, none⟩ = some (.int .i64 c.pol) ∧ W.cell? ⟨w3.heap.size, 2, none⟩ = some (.bool c.closed) ∧ W.cell? ⟨w3.heap.size, 3, none⟩ = some (.slice pb c.buf.length cb) ∧ W.cell? ⟨w3.heap.size, 4, none⟩ = some (.slice pw c.wait.length cw) ∧ W.cell? ⟨w3.heap.size, 5, none⟩ = some (.int .i64 c.dropped)) := Lib.hid fun W hW =>
            have hTr := HT.out.below hW (by rw [HN4.out]; omega)
            ⟨hTr.cell 0 (by simp), hTr.cell 1 (by simp), hTr.cell 2 (by simp), hTr.cell 3 (by simp), hTr.cell 4 (by simp), hTr.cell 5 (by simp)⟩
          have hTS := HTS.out _ HB2.out
          have ST7 : Hid (∀ W, Below wr.heap.size wr W → Calls Tryd.prog 14 #[.pointer (some ⟨w.heap.size + 1, 0, none⟩)] W (statePost W c)) := Lib.hid fun W hW => state_any (w.heap.size + 1) ns c W (HO5.out.below hW).rep (by omega)
          have hd2c := hdr2
          go_wp2_with fail
          go_region_held3 (fun w' => w'.cell? ⟨w3.heap.size, 0, none⟩ = some (.int .i64 c.cap) ∧ w'.cell? ⟨w3.heap.size, 1, none⟩ = some (.int .i64 c.pol) ∧ w'.cell? ⟨w3.heap.size, 2, none⟩ = some (.bool c.closed) ∧ w'.cell? ⟨w3.heap.size, 3, none⟩ = some (.slice pb c.buf.length cb) ∧ w'.cell? ⟨w3.heap.size, 4, none⟩ = some (.slice pw c.wait.length cw) ∧ w'.cell? ⟨w3.heap.size, 5, none⟩ = some (.int .i64 c.dropped))
            (first | exact HTS.out _ hB48 | exact HTS.out _ hB47 | go_keep)
            (first
              | (go_at_call 14; refine (ST7.out _ (by first | exact Below.drew (Below.refl _ _) | exact below_drewN (Below.refl _ _) _)).mono ?_; rintro e w7 ⟨bv7, wv7, he7, hbv7, hwv7, hb7⟩; obtain ⟨pb7, cb7, rfl, -⟩ := hbv7.form2; obtain ⟨pw7, cw7, rfl, -⟩ := hwv7.form2; obtain rfl := he7; have hB27 : Below wr.heap.size wr w7 := ⟨hb7.os, hb7.tape, hb7.output, hb7.size, hb7.block⟩; have hB47 := HB2.out.trans (hB27.mono hzB2))
              | (go_at_call 13; refine (same_any c.cap c.pol c.dropped c.closed _ _ _ _ _ _ _ _ c.buf c.wait _ (by omega) (by omega) hbv7 (HBV.out.below hB47) hwv7 (HWV.out.below hB47)).mono ?_; rintro e w8 ⟨rfl, hb8⟩; have hB48 := hB47.trans (hb8.mono (by have := hB47.size; omega))))
          have hB28 : Below wr.heap.size wr w8 := hB27.trans (hb8.mono hB27.size)
          have HI3 : Hid (CopRel3 w (w.heap.size + 1) d ms (steps c (M.take m2)) c M 0 w8) := Lib.hid ⟨ns, HO5.out.below hB28, HO2.out.rep.below hB28, fun x hx hx' => by
              have h1 := HO2.out.ge x hx
              have h2 := HO4.out.rep.lt x hx'
              omega, HBw.out.trans (hB28.mono hzw), by show c.dropped ≤ 60 + 0; omega⟩
          have hz8 : w.heap.size ≤ w8.heap.size := by have := hB28.size; omega
          clear hB27 hB28 hB47 hB48 hb7 hb8 hbv7 hwv7 ST7 hTS HTS HT HBV HWV HB2 HBw HO2 HO5 HB4 HO4
          go_wp2
          go_loopw [77] (fun vk wt => ∃ j : Nat, j ≤ m2 ∧ vk = .int .i64 j ∧ CopRel3 w (w.heap.size + 1) d ms (steps c (M.take m2)) c M j wt) (fun vk _ => m2 - (intOf vk).toNat)
          case atStart => exact ⟨0, Nat.zero_le _, rfl, HI3.out⟩
          case round =>
            obtain ⟨j, hj, rfl, ns3, hO, hRd, hdj, hB, hdr3⟩ := hrel
            have HO : Hid (Own w wr (w.heap.size + 1) ns3 (steps c (M.take j))) := Lib.hid hO
            have HRd := Lib.hid hRd
            have HDj := Lib.hid hdj
            have HB := Lib.hid hB
            have hzB := hB.size
            clear hO hRd hdj hB HI3
            by_cases hlt : j < m2
            · obtain ⟨x, hx⟩ : ∃ x, M[j]? = some x := ⟨_, List.getElem?_eq_getElem (by omega)⟩
              obtain ⟨ab, ao, hq, hab, q0, q1, q2, q3, q4, q5, hsz⟩ := HM.out.cells hx HB.out
              subst hq
              have habr : ab < wr.heap.size := by omega
              have i0 : (0 : Int) ≤ (j : Int) := by omega
              have RR := Lib.hid (HO.out.call x hsz (.cells #[.int .i64 x.kd, .int .i64 x.t, .bool x.send, .int .i64 x.v.k, .int .i64 x.v.n, .string x.v.s] 39))
              have HX := Lib.hid (steps_succ (c := c) hx)
              clear hx
              go_wp2_with fail
              refine RR.out.mono ?_
              rintro e w6 hst
              obtain ⟨rfl, ns4, hO3, hB3, hnew, hF3, hd3⟩ := HO.out.run hzB (by omega) hst
              have HN : Hid (CopRel3 w (w.heap.size + 1) d ms (steps c (M.take m2)) c M (j + 1) w6) := Lib.hid ⟨ns4, by rw [HX.out]; exact hO3, HRd.out.fr hF3 (fun x hx => HDj.out x hx), fun x hx hx' => by
                  have hl := HRd.out.lt x hx
                  rcases List.mem_cons.1 hx' with h | h
                  · exact HDj.out x hx (by simp [h])
                  · rcases hnew x h with h | h
                    · exact HDj.out x hx (List.mem_cons_of_mem _ h)
                    · omega, HB.out.trans hB3, by rw [HX.out]; omega⟩
              clear hst hO3 hB3 hnew hF3 hd3
              go_wp2
              go_roundw
              case rel => exact ⟨j + 1, by omega, by go_num, HN.out⟩
              case measure => simp [intOf]; omega
            · obtain rfl : m2 = j := by omega
              have hbl := HO.out.rep.cells.2.2.2.2.2.2.2.1
              have hcp := HO.out.rep.cells.2.2.2.2.2.2.2.2.1
              have hwl3 := HO.out.wl
              generalize steps c (M.take m2) = z at *
              have ST8 := Lib.hid (state_any (w.heap.size + 1) ns3 z wr HO.out.rep (by omega))
              go_wp2_with fail
              refine ST8.out.mono ?_
              rintro e w9 ⟨bv8, wv8, he8, hbv8, hwv8, hb9⟩
              obtain ⟨pb8, cb8, rfl, -⟩ := hbv8.form2
              obtain ⟨pw8, cw8, rfl, -⟩ := hwv8.form2
              obtain rfl := he8
              have HV8 := Lib.hid hbv8
              have HW8 := Lib.hid hwv8
              have HB9 := Lib.hid hb9
              have ST9 := Lib.hid (state_any d ms z w9 (HRd.out.below hb9) (by omega))
              clear hbv8 hwv8 hb9 ST8
              go_wp2_with fail
              refine ST9.out.mono ?_
              rintro e w10 ⟨bv9, wv9, he9, hbv9, hwv9, hb10⟩
              obtain ⟨pb9, cb9, rfl, -⟩ := hbv9.form2
              obtain ⟨pw9, cw9, rfl, -⟩ := hwv9.form2
              obtain rfl := he9
              have SA := Lib.hid (same_any z.cap z.pol z.dropped z.closed _ _ _ _ _ _ _ _ z.buf z.wait w10 (by omega) (by omega) (HV8.out.below hb10) hbv9 (HW8.out.below hb10) hwv9)
              have HB10 := Lib.hid (HB9.out.trans (hb10.mono HB9.out.size))
              clear hbv9 hwv9 hb10 ST9
              go_wp2_with fail
              refine SA.out.mono ?_
              rintro e w11 ⟨rfl, hb11⟩
              have HB11 := Lib.hid (HB10.out.trans (hb11.mono HB10.out.size))
              clear hb11 SA
              go_wp2_with fail
              refine (awake_any _ (HO.out.env.below HB11.out)).mono ?_
              rintro e w12 ⟨rfl, hb12⟩
              have HB12 := Lib.hid (HB.out.trans ((HB11.out.trans (hb12.mono HB11.out.size)).mono hzB))
              clear hb12
              go_wp2
              go_ret
              exact ⟨rfl, HB12.out⟩
end Go.Proofs.YtlibkhndekgnfaaDoor
