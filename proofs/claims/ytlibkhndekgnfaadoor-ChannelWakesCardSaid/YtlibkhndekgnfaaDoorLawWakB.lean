/- ChannelWakes returns true: the rounds. -/
import Derived.Test.YtlibkhndekgnfaaDoorWakRel
namespace Go.Proofs.YtlibkhndekgnfaaDoor
open Go.RowKit

set_option maxRecDepth 100000 in
set_option maxHeartbeats 8000000 in
theorem law_wakes_B (k : Nat) (p : Int) (q : Option Addr) (cp : Nat) (L : List Op) (w : World) (henv : Env w) (hk : k ≤ 16) (hp0 : 0 ≤ p) (hp2 : p ≤ 2) (hL : OpsIn w q cp L) (h80 : L.length ≤ 80) :
    Calls Tryd.prog 9 #[.int .i64 k, .int .i64 p, .slice q L.length cp] w fun e w' => e = .returned (.bool true) ∧ Below w.heap.size w w' := by
  have NN := Lib.hid (new_ok k p w hk hp0 hp2)
  have HE := Lib.hid henv
  have HL := Lib.hid hL
  have hpos := henv.pos
  obtain ⟨m, hm⟩ : ∃ m : Nat, m = min L.length 80 := ⟨_, rfl⟩
  have hm80 : m ≤ 80 := by omega
  have hmL : m ≤ L.length := by omega
  have hmA : m ≤ L.length := by omega
  have hmB : L.length ≤ m := by omega
  have hLc := hL.le
  have hcm := hL.cap
  unfold maxLen at hcm
  clear henv hL hm
  go_enter Tryd.func9, Tryd.ntmps9
  go_wp2_with fail
  refine NN.out.mono ?_
  rintro e w1 ⟨rfl, hR1, hB1⟩
  have HI : Hid (WakOut w 0 w1) := Lib.hid ⟨[], newSt k p, ⟨hR1, by simp, HE.out.below hB1, hpos, by simp [newSt], by simp [newSt]⟩, hB1, Cn.Q.new k p, by simp [newSt]⟩
  clear hR1 hB1 NN
  go_wp2_with fail
  go_loopw [41] (fun vk wr => ∃ i : Nat, i ≤ m ∧ vk = .int .i64 i ∧ WakOut w i wr) (fun vk _ => m - (intOf vk).toNat)
  case atStart => exact ⟨0, Nat.zero_le _, rfl, HI.out⟩
  case round =>
    obtain ⟨i, hi, rfl, ns, c, hO, hB, hQ, hdr⟩ := hrel
    have HO : Hid (Own w wr w.heap.size ns c) := Lib.hid hO
    have HB := Lib.hid hB
    have HQ := Lib.hid hQ
    have hwl : c.wait.length ≤ 200 := HO.out.wl
    have hzB := hB.size
    clear hO hB hQ HI
    by_cases hlt : i < m
    · obtain ⟨x, hx⟩ : ∃ x, L[i]? = some x := ⟨_, List.getElem?_eq_getElem (by omega)⟩
      obtain ⟨ab, ao, hq, hab, q0, q1, q2, q3, q4, q5, hsz⟩ := HL.out.cells hx HB.out
      subst hq
      have habr : ab < wr.heap.size := by omega
      have i0 : (0 : Int) ≤ (i : Int) := by omega
      obtain ⟨kd, t, sd, vk, vn, vs⟩ := x
      clear hx
      by_cases k0 : kd = 0
      · subst k0
        have HBX := Lib.hid (Blk.new wr #[.int .i64 0, .int .i64 t, .bool sd, .int .i64 vk, .int .i64 vn, .string vs] 39)
        cases hv : validB vk vn vs with
        | false =>
          have RR := Lib.hid (offer_bad w.heap.size vk vn vs (wr.alloc (.cells #[.int .i64 0, .int .i64 t, .bool sd, .int .i64 vk, .int .i64 vn, .string vs] 39)) hv hsz)
          have HV := Lib.hid hv
          clear hv
          go_wp2_with fail
          refine RR.out.mono ?_
          rintro e wa ⟨rfl, hb2⟩
          have bX := (HBX.out.below hb2 (by simp)).alloc (.cells #[.int .i64 0, .string noS] 45)
          have y3 : (wa.alloc (.cells #[.int .i64 0, .string noS] 45)).cell? ⟨wr.heap.size, 3, none⟩ = some (.int .i64 vk) := bX.cell 3 (by simp)
          have bX := HBX.out.below hb2 (by simp)
          have y3 : wa.cell? ⟨wr.heap.size, 3, none⟩ = some (.int .i64 vk) := bX.cell 3 (by simp)
          have y4 : wa.cell? ⟨wr.heap.size, 4, none⟩ = some (.int .i64 vn) := bX.cell 4 (by simp)
          have y5 : wa.cell? ⟨wr.heap.size, 5, none⟩ = some (.string vs) := bX.cell 5 (by simp)
          have hxl := bX.lt
          have hba := (one wr (.cells #[.int .i64 0, .int .i64 t, .bool sd, .int .i64 vk, .int .i64 vn, .string vs] 39)).trans (hb2.mono (by simp))
          have HBa := Lib.hid (hba.alloc hba.size (.cells #[.int .i64 0, .string noS] 45))
          have PP := Lib.hid (park_bad w.heap.size ((i : Int) + 1) vk vn vs (wa.alloc (.cells #[.int .i64 0, .string noS] 45)) (by omega) HV.out hsz)
          clear hb2 hba bX RR
          go_wp2_with fail
          refine PP.out.mono ?_
          rintro e w2 ⟨rfl, hb3⟩
          have hbb := HBa.out.trans (hb3.mono (by have := HBa.out.size; omega))
          obtain ⟨d, ns2, HO2, HB2, HQ2, hdd⟩ : ∃ d ns2, Hid (Own w w2 w.heap.size ns2 d) ∧ Hid (Below w.heap.size w w2) ∧ Hid (Cn.Q d) ∧ d.dropped ≤ i + 1 := ⟨c, ns, Lib.hid (HO.out.below hbb), Lib.hid (HB.out.trans (hbb.mono hzB)), HQ, by omega⟩
          clear hb3 hbb HBa PP y3 y4 y5 hxl HBX
          have hw2 := HO2.out.wl
          have ST : Hid (∀ W, Below w2.heap.size w2 W → Calls Tryd.prog 14 #[.pointer (some ⟨w.heap.size, 0, none⟩)] W (statePost W d)) := Lib.hid fun W hW => state_any w.heap.size ns2 d W (HO2.out.below hW).rep (by omega)
          have hzw := HB2.out.size
          go_wp2_with fail
          refine (ST.out _ (Below.refl _ _)).mono ?_
          rintro e w3 ⟨bv, wv, he3, hbv, hwv, hb3⟩
          obtain ⟨pb, cb, rfl, -⟩ := hbv.form2
          obtain ⟨pw, cw, rfl, -⟩ := hwv.form2
          unfold stateV at he3
          obtain rfl := he3
          have hb4 := Below.trans (Below.refl _ _) (hb3.mono (by first | exact Nat.le_refl _ | (simp; done) | (simp; omega)))
          have HI2 : Hid (WakRel w ns2 d (.slice pw d.wait.length cw) w3) := Lib.hid ⟨HO2.out.below hb4, hwv.weaken (Nat.zero_le _), HB2.out.trans (hb4.mono hzw)⟩
          clear hbv hwv hb3 hb4 ST HO2 HB2
          go_wp2_with fail
          rw [field_wait]
          go_wp2_with fail
          go_loopw [97] (fun vj wt => ∃ j : Nat, j ≤ d.wait.length ∧ vj = .int .i64 j ∧ WakRel w ns2 d (.slice pw d.wait.length cw) wt) (fun vj _ => d.wait.length - (intOf vj).toNat)
          case atStart => exact ⟨0, Nat.zero_le _, rfl, HI2.out⟩
          case round =>
            obtain ⟨j, hj, rfl, hO, hW, hB⟩ := hrel
            have HO3 : Hid (Own w wr w.heap.size ns2 d) := Lib.hid hO
            have HW3 := Lib.hid hW
            have HB3 := Lib.hid hB
            have hz3 := hB.size
            clear hO hW hB HI2
            by_cases hltj : j < d.wait.length
            · obtain ⟨y, hy⟩ : ∃ y, d.wait[j]? = some y := ⟨_, List.getElem?_eq_getElem hltj⟩
              have hym : y ∈ d.wait := List.mem_of_getElem? hy
              obtain ⟨g, cw', hg, hg1, hg2, -, hg3⟩ := RowAt.pos HW3.out (by omega)
              cases hg
              obtain ⟨u0, u1, u2, u3, u4⟩ := WsAt.cells HW3.out hy
              have hyz := HQ2.out.z y hym
              have hyn : y.send = true → (Cn.offer d y.v).2.2.2 = false := fun hs => HQ2.out.offer_not hym hs y.v
              have hyt : y.send = false → (Cn.take d).2.2.2.2 = false := fun hs => HQ2.out.take_not hym hs
              have HYN := Lib.hid hyn
              have HYT := Lib.hid hyt
              clear hyn hyt hy hym
              obtain ⟨yt, ys, ⟨yk, yn, yv⟩⟩ := y
              have ij0 : (0 : Int) ≤ (j : Int) := by omega
              have ij1 : (j : Int) < (d.wait.length : Int) := by omega
              have CC := Lib.hid (copy_any w.heap.size ns2 d (wr.alloc (.cells #[.int .i64 yt, .bool ys, .int .i64 yk, .int .i64 yn, .string yv] 59)) (HO3.out.rep.alloc _))
              have HBX := Lib.hid (Blk.new wr #[.int .i64 yt, .bool ys, .int .i64 yk, .int .i64 yn, .string yv] 59)
              go_wp2_with fail
              refine CC.out.mono ?_
              rintro e w4 ⟨dd, ms, rfl, hRd, hge, hb4⟩
              have bX := HBX.out.below hb4 (by simp)
              have x1 : w4.cell? ⟨wr.heap.size, 1, none⟩ = some (.bool ys) := bX.cell 1 (by simp)
              have x2 : w4.cell? ⟨wr.heap.size, 2, none⟩ = some (.int .i64 yk) := bX.cell 2 (by simp)
              have x3 : w4.cell? ⟨wr.heap.size, 3, none⟩ = some (.int .i64 yn) := bX.cell 3 (by simp)
              have x4 : w4.cell? ⟨wr.heap.size, 4, none⟩ = some (.string yv) := bX.cell 4 (by simp)
              have hx4 := bX.lt
              have HRd := Lib.hid hRd
              have hb4' : Below wr.heap.size wr w4 := (one _ _).trans (hb4.mono (by simp))
              have HB4 := Lib.hid hb4'
              have HE4 := Lib.hid (HO3.out.env.below hb4')
              have HGe : Hid (∀ x ∈ dd :: ms, wr.heap.size ≤ x) := Lib.hid fun x hx => by have := hge x hx; simp at this; omega
              have hzr : 0 < wr.heap.size := by omega
              have hz4 := hb4'.size
              clear hRd hge hb4 hb4' bX CC HBX
              cases ys with
              | true =>
                have hdn : (Cn.offer d ⟨yk, yn, yv⟩).2.2.2 = false := HYN.out rfl
                cases hyv : validB yk yn yv with
                | false =>
                  have OO := Lib.hid (offer_bad dd yk yn yv w4 hyv hyz)
                  clear hyv hdn
                  go_wp2_with fail
                  refine OO.out.mono ?_
                  rintro e w5 ⟨rfl, hb5⟩
                  have HN : Hid (WakRel w ns2 d (.slice (some ⟨g, 0, none⟩) d.wait.length cw) w5) := Lib.hid ⟨HO3.out.below (HB4.out.trans (hb5.mono hz4)), HW3.out.below (HB4.out.trans (hb5.mono hz4)), HB3.out.trans ((HB4.out.trans (hb5.mono hz4)).mono hz3)⟩
                  clear hb5
                  go_wp2
                  go_roundw
                  case rel => exact ⟨j + 1, by omega, by go_num, HN.out⟩
                  case measure => simp [intOf]; omega
                | true =>
                  have OO := Lib.hid (offer_any dd ms d yk yn yv w4 HRd.out HE4.out hyv hyz (by omega))
                  unfold offerPost at OO
                  rw [hdn] at OO
                  generalize (Cn.offer d ⟨yk, yn, yv⟩).2.2.1 = fl at OO
                  clear hyv hdn
                  go_wp2_with fail
                  refine OO.out.mono ?_
                  rintro e w5 ⟨ms', dv, -, rfl, -, -, hF5⟩
                  have hb5 : Below wr.heap.size w4 w5 := hF5.below HGe.out hz4
                  have HN : Hid (WakRel w ns2 d (.slice (some ⟨g, 0, none⟩) d.wait.length cw) w5) := Lib.hid ⟨HO3.out.below (HB4.out.trans hb5), HW3.out.below (HB4.out.trans hb5), HB3.out.trans ((HB4.out.trans hb5).mono hz3)⟩
                  clear hb5 hF5
                  go_wp2
                  go_roundw
                  case rel => exact ⟨j + 1, by omega, by go_num, HN.out⟩
                  case measure => simp [intOf]; omega
              | false =>
                have hdn : (Cn.take d).2.2.2.2 = false := HYT.out rfl
                have OO := Lib.hid (take_any dd ms d w4 HRd.out HE4.out (fun x hx => by have := HGe.out x hx; omega))
                unfold takeFPost at OO
                rw [hdn] at OO
                generalize (Cn.take d).2.2.2.1 = fl at OO
                clear hdn
                go_wp2_with fail
                refine OO.out.mono ?_
                rintro e w5 ⟨ms', dv, -, rfl, -, -, hF5⟩
                have hb5 : Below wr.heap.size w4 w5 := hF5.below HGe.out hz4
                have HN : Hid (WakRel w ns2 d (.slice (some ⟨g, 0, none⟩) d.wait.length cw) w5) := Lib.hid ⟨HO3.out.below (HB4.out.trans hb5), HW3.out.below (HB4.out.trans hb5), HB3.out.trans ((HB4.out.trans hb5).mono hz3)⟩
                clear hb5 hF5
                go_wp2
                go_roundw
                case rel => exact ⟨j + 1, by omega, by go_num, HN.out⟩
                case measure => simp [intOf]; omega
            · obtain rfl : j = d.wait.length := by omega
              go_wp2
              go_roundw
              case rel => exact ⟨i + 1, by omega, by go_num, ns2, d, HO3.out, HB3.out, HQ2.out, hdd⟩
              case measure => simp [intOf]; omega
        | true =>
          have RR := Lib.hid (offer_any w.heap.size ns c vk vn vs (wr.alloc (.cells #[.int .i64 0, .int .i64 t, .bool sd, .int .i64 vk, .int .i64 vn, .string vs] 39)) (HO.out.rep.alloc _) (HO.out.env.below (one _ _)) hv hsz (by omega))
          have HV := Lib.hid hv
          clear hv
          unfold offerPost at RR
          cases hdn : (Cn.offer c ⟨vk, vn, vs⟩).2.2.2 with
          | true =>
            rw [hdn] at RR
            have KK := Lib.hid (Cn.offer_keeps c ⟨vk, vn, vs⟩)
            have hQ2 := HQ.out.offer ⟨vk, vn, vs⟩ hdn
            clear hdn
            generalize (Cn.offer c ⟨vk, vn, vs⟩).2.2.1 = fl at RR
            generalize (Cn.offer c ⟨vk, vn, vs⟩).2.1 = ds at RR
            generalize (Cn.offer c ⟨vk, vn, vs⟩).1 = d at RR KK hQ2
            have HQ2 := Lib.hid hQ2
            have hdd : d.dropped ≤ i + 1 := by have := KK.out.dr; omega
            clear hQ2
            cases fl with
            | false =>
              go_wp2_with fail
              refine RR.out.mono ?_
              rintro e w2 ⟨ns1, dv, hs, rfl, hd, hR, hF⟩
              obtain ⟨ns2, hO2, hB2, -, -⟩ := HO.out.next KK.out (by omega) (stepPost.box ⟨ns1, fun x hx => .inl (hs x hx), hR, hF⟩) hzB
              have HO2 := Lib.hid hO2
              have HB2 := Lib.hid (HB.out.trans (hB2.mono (Nat.le_refl _)))
              clear hs hd hR hF hO2 hB2 KK RR HBX
              have hw2 := HO2.out.wl
              have ST : Hid (∀ W, Below w2.heap.size w2 W → Calls Tryd.prog 14 #[.pointer (some ⟨w.heap.size, 0, none⟩)] W (statePost W d)) := Lib.hid fun W hW => state_any w.heap.size ns2 d W (HO2.out.below hW).rep (by omega)
              have hzw := HB2.out.size
              go_wp2_with fail
              refine (ST.out _ (one _ _)).mono ?_
              rintro e w3 ⟨bv, wv, he3, hbv, hwv, hb3⟩
              obtain ⟨pb, cb, rfl, -⟩ := hbv.form2
              obtain ⟨pw, cw, rfl, -⟩ := hwv.form2
              unfold stateV at he3
              obtain rfl := he3
              have hb4 := Below.trans (one _ _) (hb3.mono (by first | exact Nat.le_refl _ | (simp; done) | (simp; omega)))
              have HI2 : Hid (WakRel w ns2 d (.slice pw d.wait.length cw) w3) := Lib.hid ⟨HO2.out.below hb4, hwv.weaken (Nat.zero_le _), HB2.out.trans (hb4.mono hzw)⟩
              clear hbv hwv hb3 hb4 ST HO2 HB2
              go_wp2_with fail
              rw [field_wait]
              go_wp2_with fail
              go_loopw [97] (fun vj wt => ∃ j : Nat, j ≤ d.wait.length ∧ vj = .int .i64 j ∧ WakRel w ns2 d (.slice pw d.wait.length cw) wt) (fun vj _ => d.wait.length - (intOf vj).toNat)
              case atStart => exact ⟨0, Nat.zero_le _, rfl, HI2.out⟩
              case round =>
                obtain ⟨j, hj, rfl, hO, hW, hB⟩ := hrel
                have HO3 : Hid (Own w wr w.heap.size ns2 d) := Lib.hid hO
                have HW3 := Lib.hid hW
                have HB3 := Lib.hid hB
                have hz3 := hB.size
                clear hO hW hB HI2
                by_cases hltj : j < d.wait.length
                · obtain ⟨y, hy⟩ : ∃ y, d.wait[j]? = some y := ⟨_, List.getElem?_eq_getElem hltj⟩
                  have hym : y ∈ d.wait := List.mem_of_getElem? hy
                  obtain ⟨g, cw', hg, hg1, hg2, -, hg3⟩ := RowAt.pos HW3.out (by omega)
                  cases hg
                  obtain ⟨u0, u1, u2, u3, u4⟩ := WsAt.cells HW3.out hy
                  have hyz := HQ2.out.z y hym
                  have hyn : y.send = true → (Cn.offer d y.v).2.2.2 = false := fun hs => HQ2.out.offer_not hym hs y.v
                  have hyt : y.send = false → (Cn.take d).2.2.2.2 = false := fun hs => HQ2.out.take_not hym hs
                  have HYN := Lib.hid hyn
                  have HYT := Lib.hid hyt
                  clear hyn hyt hy hym
                  obtain ⟨yt, ys, ⟨yk, yn, yv⟩⟩ := y
                  have ij0 : (0 : Int) ≤ (j : Int) := by omega
                  have ij1 : (j : Int) < (d.wait.length : Int) := by omega
                  have CC := Lib.hid (copy_any w.heap.size ns2 d (wr.alloc (.cells #[.int .i64 yt, .bool ys, .int .i64 yk, .int .i64 yn, .string yv] 59)) (HO3.out.rep.alloc _))
                  have HBX := Lib.hid (Blk.new wr #[.int .i64 yt, .bool ys, .int .i64 yk, .int .i64 yn, .string yv] 59)
                  go_wp2_with fail
                  refine CC.out.mono ?_
                  rintro e w4 ⟨dd, ms, rfl, hRd, hge, hb4⟩
                  have bX := HBX.out.below hb4 (by simp)
                  have x1 : w4.cell? ⟨wr.heap.size, 1, none⟩ = some (.bool ys) := bX.cell 1 (by simp)
                  have x2 : w4.cell? ⟨wr.heap.size, 2, none⟩ = some (.int .i64 yk) := bX.cell 2 (by simp)
                  have x3 : w4.cell? ⟨wr.heap.size, 3, none⟩ = some (.int .i64 yn) := bX.cell 3 (by simp)
                  have x4 : w4.cell? ⟨wr.heap.size, 4, none⟩ = some (.string yv) := bX.cell 4 (by simp)
                  have hx4 := bX.lt
                  have HRd := Lib.hid hRd
                  have hb4' : Below wr.heap.size wr w4 := (one _ _).trans (hb4.mono (by simp))
                  have HB4 := Lib.hid hb4'
                  have HE4 := Lib.hid (HO3.out.env.below hb4')
                  have HGe : Hid (∀ x ∈ dd :: ms, wr.heap.size ≤ x) := Lib.hid fun x hx => by have := hge x hx; simp at this; omega
                  have hzr : 0 < wr.heap.size := by omega
                  have hz4 := hb4'.size
                  clear hRd hge hb4 hb4' bX CC HBX
                  cases ys with
                  | true =>
                    have hdn : (Cn.offer d ⟨yk, yn, yv⟩).2.2.2 = false := HYN.out rfl
                    cases hyv : validB yk yn yv with
                    | false =>
                      have OO := Lib.hid (offer_bad dd yk yn yv w4 hyv hyz)
                      clear hyv hdn
                      go_wp2_with fail
                      refine OO.out.mono ?_
                      rintro e w5 ⟨rfl, hb5⟩
                      have HN : Hid (WakRel w ns2 d (.slice (some ⟨g, 0, none⟩) d.wait.length cw) w5) := Lib.hid ⟨HO3.out.below (HB4.out.trans (hb5.mono hz4)), HW3.out.below (HB4.out.trans (hb5.mono hz4)), HB3.out.trans ((HB4.out.trans (hb5.mono hz4)).mono hz3)⟩
                      clear hb5
                      go_wp2
                      go_roundw
                      case rel => exact ⟨j + 1, by omega, by go_num, HN.out⟩
                      case measure => simp [intOf]; omega
                    | true =>
                      have OO := Lib.hid (offer_any dd ms d yk yn yv w4 HRd.out HE4.out hyv hyz (by omega))
                      unfold offerPost at OO
                      rw [hdn] at OO
                      generalize (Cn.offer d ⟨yk, yn, yv⟩).2.2.1 = fl at OO
                      clear hyv hdn
                      go_wp2_with fail
                      refine OO.out.mono ?_
                      rintro e w5 ⟨ms', dv, -, rfl, -, -, hF5⟩
                      have hb5 : Below wr.heap.size w4 w5 := hF5.below HGe.out hz4
                      have HN : Hid (WakRel w ns2 d (.slice (some ⟨g, 0, none⟩) d.wait.length cw) w5) := Lib.hid ⟨HO3.out.below (HB4.out.trans hb5), HW3.out.below (HB4.out.trans hb5), HB3.out.trans ((HB4.out.trans hb5).mono hz3)⟩
                      clear hb5 hF5
                      go_wp2
                      go_roundw
                      case rel => exact ⟨j + 1, by omega, by go_num, HN.out⟩
                      case measure => simp [intOf]; omega
                  | false =>
                    have hdn : (Cn.take d).2.2.2.2 = false := HYT.out rfl
                    have OO := Lib.hid (take_any dd ms d w4 HRd.out HE4.out (fun x hx => by have := HGe.out x hx; omega))
                    unfold takeFPost at OO
                    rw [hdn] at OO
                    generalize (Cn.take d).2.2.2.1 = fl at OO
                    clear hdn
                    go_wp2_with fail
                    refine OO.out.mono ?_
                    rintro e w5 ⟨ms', dv, -, rfl, -, -, hF5⟩
                    have hb5 : Below wr.heap.size w4 w5 := hF5.below HGe.out hz4
                    have HN : Hid (WakRel w ns2 d (.slice (some ⟨g, 0, none⟩) d.wait.length cw) w5) := Lib.hid ⟨HO3.out.below (HB4.out.trans hb5), HW3.out.below (HB4.out.trans hb5), HB3.out.trans ((HB4.out.trans hb5).mono hz3)⟩
                    clear hb5 hF5
                    go_wp2
                    go_roundw
                    case rel => exact ⟨j + 1, by omega, by go_num, HN.out⟩
                    case measure => simp [intOf]; omega
                · obtain rfl : j = d.wait.length := by omega
                  go_wp2
                  go_roundw
                  case rel => exact ⟨i + 1, by omega, by go_num, ns2, d, HO3.out, HB3.out, HQ2.out, hdd⟩
                  case measure => simp [intOf]; omega
            | true =>
              go_wp2_with fail
              refine RR.out.mono ?_
              rintro e w2 ⟨ns1, dv, hs, rfl, hd, hR, hF⟩
              obtain ⟨ns2, hO2, hB2, -, -⟩ := HO.out.next KK.out (by omega) (stepPost.box ⟨ns1, fun x hx => .inl (hs x hx), hR, hF⟩) hzB
              have HO2 := Lib.hid hO2
              have HB2 := Lib.hid (HB.out.trans (hB2.mono (Nat.le_refl _)))
              clear hs hd hR hF hO2 hB2 KK RR HBX
              have hw2 := HO2.out.wl
              have ST : Hid (∀ W, Below w2.heap.size w2 W → Calls Tryd.prog 14 #[.pointer (some ⟨w.heap.size, 0, none⟩)] W (statePost W d)) := Lib.hid fun W hW => state_any w.heap.size ns2 d W (HO2.out.below hW).rep (by omega)
              have hzw := HB2.out.size
              go_wp2_with fail
              refine (ST.out _ (one _ _)).mono ?_
              rintro e w3 ⟨bv, wv, he3, hbv, hwv, hb3⟩
              obtain ⟨pb, cb, rfl, -⟩ := hbv.form2
              obtain ⟨pw, cw, rfl, -⟩ := hwv.form2
              unfold stateV at he3
              obtain rfl := he3
              have hb4 := Below.trans (one _ _) (hb3.mono (by first | exact Nat.le_refl _ | (simp; done) | (simp; omega)))
              have HI2 : Hid (WakRel w ns2 d (.slice pw d.wait.length cw) w3) := Lib.hid ⟨HO2.out.below hb4, hwv.weaken (Nat.zero_le _), HB2.out.trans (hb4.mono hzw)⟩
              clear hbv hwv hb3 hb4 ST HO2 HB2
              go_wp2_with fail
              rw [field_wait]
              go_wp2_with fail
              go_loopw [97] (fun vj wt => ∃ j : Nat, j ≤ d.wait.length ∧ vj = .int .i64 j ∧ WakRel w ns2 d (.slice pw d.wait.length cw) wt) (fun vj _ => d.wait.length - (intOf vj).toNat)
              case atStart => exact ⟨0, Nat.zero_le _, rfl, HI2.out⟩
              case round =>
                obtain ⟨j, hj, rfl, hO, hW, hB⟩ := hrel
                have HO3 : Hid (Own w wr w.heap.size ns2 d) := Lib.hid hO
                have HW3 := Lib.hid hW
                have HB3 := Lib.hid hB
                have hz3 := hB.size
                clear hO hW hB HI2
                by_cases hltj : j < d.wait.length
                · obtain ⟨y, hy⟩ : ∃ y, d.wait[j]? = some y := ⟨_, List.getElem?_eq_getElem hltj⟩
                  have hym : y ∈ d.wait := List.mem_of_getElem? hy
                  obtain ⟨g, cw', hg, hg1, hg2, -, hg3⟩ := RowAt.pos HW3.out (by omega)
                  cases hg
                  obtain ⟨u0, u1, u2, u3, u4⟩ := WsAt.cells HW3.out hy
                  have hyz := HQ2.out.z y hym
                  have hyn : y.send = true → (Cn.offer d y.v).2.2.2 = false := fun hs => HQ2.out.offer_not hym hs y.v
                  have hyt : y.send = false → (Cn.take d).2.2.2.2 = false := fun hs => HQ2.out.take_not hym hs
                  have HYN := Lib.hid hyn
                  have HYT := Lib.hid hyt
                  clear hyn hyt hy hym
                  obtain ⟨yt, ys, ⟨yk, yn, yv⟩⟩ := y
                  have ij0 : (0 : Int) ≤ (j : Int) := by omega
                  have ij1 : (j : Int) < (d.wait.length : Int) := by omega
                  have CC := Lib.hid (copy_any w.heap.size ns2 d (wr.alloc (.cells #[.int .i64 yt, .bool ys, .int .i64 yk, .int .i64 yn, .string yv] 59)) (HO3.out.rep.alloc _))
                  have HBX := Lib.hid (Blk.new wr #[.int .i64 yt, .bool ys, .int .i64 yk, .int .i64 yn, .string yv] 59)
                  go_wp2_with fail
                  refine CC.out.mono ?_
                  rintro e w4 ⟨dd, ms, rfl, hRd, hge, hb4⟩
                  have bX := HBX.out.below hb4 (by simp)
                  have x1 : w4.cell? ⟨wr.heap.size, 1, none⟩ = some (.bool ys) := bX.cell 1 (by simp)
                  have x2 : w4.cell? ⟨wr.heap.size, 2, none⟩ = some (.int .i64 yk) := bX.cell 2 (by simp)
                  have x3 : w4.cell? ⟨wr.heap.size, 3, none⟩ = some (.int .i64 yn) := bX.cell 3 (by simp)
                  have x4 : w4.cell? ⟨wr.heap.size, 4, none⟩ = some (.string yv) := bX.cell 4 (by simp)
                  have hx4 := bX.lt
                  have HRd := Lib.hid hRd
                  have hb4' : Below wr.heap.size wr w4 := (one _ _).trans (hb4.mono (by simp))
                  have HB4 := Lib.hid hb4'
                  have HE4 := Lib.hid (HO3.out.env.below hb4')
                  have HGe : Hid (∀ x ∈ dd :: ms, wr.heap.size ≤ x) := Lib.hid fun x hx => by have := hge x hx; simp at this; omega
                  have hzr : 0 < wr.heap.size := by omega
                  have hz4 := hb4'.size
                  clear hRd hge hb4 hb4' bX CC HBX
                  cases ys with
                  | true =>
                    have hdn : (Cn.offer d ⟨yk, yn, yv⟩).2.2.2 = false := HYN.out rfl
                    cases hyv : validB yk yn yv with
                    | false =>
                      have OO := Lib.hid (offer_bad dd yk yn yv w4 hyv hyz)
                      clear hyv hdn
                      go_wp2_with fail
                      refine OO.out.mono ?_
                      rintro e w5 ⟨rfl, hb5⟩
                      have HN : Hid (WakRel w ns2 d (.slice (some ⟨g, 0, none⟩) d.wait.length cw) w5) := Lib.hid ⟨HO3.out.below (HB4.out.trans (hb5.mono hz4)), HW3.out.below (HB4.out.trans (hb5.mono hz4)), HB3.out.trans ((HB4.out.trans (hb5.mono hz4)).mono hz3)⟩
                      clear hb5
                      go_wp2
                      go_roundw
                      case rel => exact ⟨j + 1, by omega, by go_num, HN.out⟩
                      case measure => simp [intOf]; omega
                    | true =>
                      have OO := Lib.hid (offer_any dd ms d yk yn yv w4 HRd.out HE4.out hyv hyz (by omega))
                      unfold offerPost at OO
                      rw [hdn] at OO
                      generalize (Cn.offer d ⟨yk, yn, yv⟩).2.2.1 = fl at OO
                      clear hyv hdn
                      go_wp2_with fail
                      refine OO.out.mono ?_
                      rintro e w5 ⟨ms', dv, -, rfl, -, -, hF5⟩
                      have hb5 : Below wr.heap.size w4 w5 := hF5.below HGe.out hz4
                      have HN : Hid (WakRel w ns2 d (.slice (some ⟨g, 0, none⟩) d.wait.length cw) w5) := Lib.hid ⟨HO3.out.below (HB4.out.trans hb5), HW3.out.below (HB4.out.trans hb5), HB3.out.trans ((HB4.out.trans hb5).mono hz3)⟩
                      clear hb5 hF5
                      go_wp2
                      go_roundw
                      case rel => exact ⟨j + 1, by omega, by go_num, HN.out⟩
                      case measure => simp [intOf]; omega
                  | false =>
                    have hdn : (Cn.take d).2.2.2.2 = false := HYT.out rfl
                    have OO := Lib.hid (take_any dd ms d w4 HRd.out HE4.out (fun x hx => by have := HGe.out x hx; omega))
                    unfold takeFPost at OO
                    rw [hdn] at OO
                    generalize (Cn.take d).2.2.2.1 = fl at OO
                    clear hdn
                    go_wp2_with fail
                    refine OO.out.mono ?_
                    rintro e w5 ⟨ms', dv, -, rfl, -, -, hF5⟩
                    have hb5 : Below wr.heap.size w4 w5 := hF5.below HGe.out hz4
                    have HN : Hid (WakRel w ns2 d (.slice (some ⟨g, 0, none⟩) d.wait.length cw) w5) := Lib.hid ⟨HO3.out.below (HB4.out.trans hb5), HW3.out.below (HB4.out.trans hb5), HB3.out.trans ((HB4.out.trans hb5).mono hz3)⟩
                    clear hb5 hF5
                    go_wp2
                    go_roundw
                    case rel => exact ⟨j + 1, by omega, by go_num, HN.out⟩
                    case measure => simp [intOf]; omega
                · obtain rfl : j = d.wait.length := by omega
                  go_wp2
                  go_roundw
                  case rel => exact ⟨i + 1, by omega, by go_num, ns2, d, HO3.out, HB3.out, HQ2.out, hdd⟩
                  case measure => simp [intOf]; omega
          | false =>
            rw [hdn, (Cn.offer_same _ hdn).1, Cn.offer_fl _ hdn] at RR
            have HQ2 := Lib.hid (park_send HQ.out ((i : Int) + 1) ⟨vk, vn, vs⟩ hsz hdn)
            have KK := Lib.hid (park_keeps c ((i : Int) + 1) true ⟨vk, vn, vs⟩)
            clear hdn
            generalize (Cn.offer c ⟨vk, vn, vs⟩).2.1 = ds at RR
            go_wp2_with fail
            refine RR.out.mono ?_
            rintro e wa ⟨ns1, dv, hs, rfl, hd, hR, hF⟩
            have hnx : wr.heap.size ∉ w.heap.size :: ns := fun hm => by have := HO.out.rep.lt _ hm; omega
            have bX := HBX.out.fr hF hnx
            have y3 : wa.cell? ⟨wr.heap.size, 3, none⟩ = some (.int .i64 vk) := bX.cell 3 (by simp)
            have y4 : wa.cell? ⟨wr.heap.size, 4, none⟩ = some (.int .i64 vn) := bX.cell 4 (by simp)
            have y5 : wa.cell? ⟨wr.heap.size, 5, none⟩ = some (.string vs) := bX.cell 5 (by simp)
            have hxl := bX.lt
            obtain ⟨nsa, hOa, hBa, -, -⟩ := HO.out.next (Cn.Keeps.refl c) (by omega) (stepPost.box ⟨ns1, fun x hx => .inl (hs x hx), hR, hF⟩) hzB
            have HOa := Lib.hid hOa
            have HBa := Lib.hid (HB.out.trans (hBa.mono (Nat.le_refl _)))
            have PP : Hid (∀ o, Calls Tryd.prog 18 #[.pointer (some ⟨w.heap.size, 0, none⟩), .int .i64 ((i : Int) + 1), .bool true, valV vk vn vs] (wa.alloc o) (parkPost (wa.alloc o) w.heap.size nsa c ((i : Int) + 1) true ⟨vk, vn, vs⟩)) := Lib.hid fun o => (callsIn_wide (n := 4)).1 (parktrue_in 4 (by omega) w.heap.size nsa c ((i : Int) + 1) vk vn vs (wa.alloc o) (HOa.out.rep.alloc o) (by omega) HV.out hsz (by omega))
            have hza := HBa.out.size
            clear hs hd hR hF hOa hBa bX RR
            go_wp2_with fail
            refine (PP.out _).mono ?_
            rintro e w2 ⟨ns3, hs3, rfl, hR3, hF3⟩
            generalize park c ((i : Int) + 1) true ⟨vk, vn, vs⟩ = pr at *
            obtain ⟨d, er⟩ := pr
            obtain ⟨ns2, hO2, hB2, -, -⟩ := HOa.out.next KK.out (by omega) (stepPost.box ⟨ns3, hs3, hR3, hF3⟩) hza
            have HO2 : Hid (Own w w2 w.heap.size ns2 d) := Lib.hid hO2
            have HB2 := Lib.hid (HBa.out.trans (hB2.mono (Nat.le_refl _)))
            have hdd : d.dropped ≤ i + 1 := by have := KK.out.dr; simp at this; omega
            replace HQ2 : Hid (Cn.Q d) := HQ2
            clear hs3 hR3 hF3 hO2 hB2 KK PP y3 y4 y5 hxl HBX HOa HBa hza
            have hw2 := HO2.out.wl
            have ST : Hid (∀ W, Below w2.heap.size w2 W → Calls Tryd.prog 14 #[.pointer (some ⟨w.heap.size, 0, none⟩)] W (statePost W d)) := Lib.hid fun W hW => state_any w.heap.size ns2 d W (HO2.out.below hW).rep (by omega)
            have hzw := HB2.out.size
            go_wp2_with fail
            refine (ST.out _ (Below.refl _ _)).mono ?_
            rintro e w3 ⟨bv, wv, he3, hbv, hwv, hb3⟩
            obtain ⟨pb, cb, rfl, -⟩ := hbv.form2
            obtain ⟨pw, cw, rfl, -⟩ := hwv.form2
            unfold stateV at he3
            obtain rfl := he3
            have hb4 := Below.trans (Below.refl _ _) (hb3.mono (by first | exact Nat.le_refl _ | (simp; done) | (simp; omega)))
            have HI2 : Hid (WakRel w ns2 d (.slice pw d.wait.length cw) w3) := Lib.hid ⟨HO2.out.below hb4, hwv.weaken (Nat.zero_le _), HB2.out.trans (hb4.mono hzw)⟩
            clear hbv hwv hb3 hb4 ST HO2 HB2
            go_wp2_with fail
            rw [field_wait]
            go_wp2_with fail
            go_loopw [97] (fun vj wt => ∃ j : Nat, j ≤ d.wait.length ∧ vj = .int .i64 j ∧ WakRel w ns2 d (.slice pw d.wait.length cw) wt) (fun vj _ => d.wait.length - (intOf vj).toNat)
            case atStart => exact ⟨0, Nat.zero_le _, rfl, HI2.out⟩
            case round =>
              obtain ⟨j, hj, rfl, hO, hW, hB⟩ := hrel
              have HO3 : Hid (Own w wr w.heap.size ns2 d) := Lib.hid hO
              have HW3 := Lib.hid hW
              have HB3 := Lib.hid hB
              have hz3 := hB.size
              clear hO hW hB HI2
              by_cases hltj : j < d.wait.length
              · obtain ⟨y, hy⟩ : ∃ y, d.wait[j]? = some y := ⟨_, List.getElem?_eq_getElem hltj⟩
                have hym : y ∈ d.wait := List.mem_of_getElem? hy
                obtain ⟨g, cw', hg, hg1, hg2, -, hg3⟩ := RowAt.pos HW3.out (by omega)
                cases hg
                obtain ⟨u0, u1, u2, u3, u4⟩ := WsAt.cells HW3.out hy
                have hyz := HQ2.out.z y hym
                have hyn : y.send = true → (Cn.offer d y.v).2.2.2 = false := fun hs => HQ2.out.offer_not hym hs y.v
                have hyt : y.send = false → (Cn.take d).2.2.2.2 = false := fun hs => HQ2.out.take_not hym hs
                have HYN := Lib.hid hyn
                have HYT := Lib.hid hyt
                clear hyn hyt hy hym
                obtain ⟨yt, ys, ⟨yk, yn, yv⟩⟩ := y
                have ij0 : (0 : Int) ≤ (j : Int) := by omega
                have ij1 : (j : Int) < (d.wait.length : Int) := by omega
                have CC := Lib.hid (copy_any w.heap.size ns2 d (wr.alloc (.cells #[.int .i64 yt, .bool ys, .int .i64 yk, .int .i64 yn, .string yv] 59)) (HO3.out.rep.alloc _))
                have HBX := Lib.hid (Blk.new wr #[.int .i64 yt, .bool ys, .int .i64 yk, .int .i64 yn, .string yv] 59)
                go_wp2_with fail
                refine CC.out.mono ?_
                rintro e w4 ⟨dd, ms, rfl, hRd, hge, hb4⟩
                have bX := HBX.out.below hb4 (by simp)
                have x1 : w4.cell? ⟨wr.heap.size, 1, none⟩ = some (.bool ys) := bX.cell 1 (by simp)
                have x2 : w4.cell? ⟨wr.heap.size, 2, none⟩ = some (.int .i64 yk) := bX.cell 2 (by simp)
                have x3 : w4.cell? ⟨wr.heap.size, 3, none⟩ = some (.int .i64 yn) := bX.cell 3 (by simp)
                have x4 : w4.cell? ⟨wr.heap.size, 4, none⟩ = some (.string yv) := bX.cell 4 (by simp)
                have hx4 := bX.lt
                have HRd := Lib.hid hRd
                have hb4' : Below wr.heap.size wr w4 := (one _ _).trans (hb4.mono (by simp))
                have HB4 := Lib.hid hb4'
                have HE4 := Lib.hid (HO3.out.env.below hb4')
                have HGe : Hid (∀ x ∈ dd :: ms, wr.heap.size ≤ x) := Lib.hid fun x hx => by have := hge x hx; simp at this; omega
                have hzr : 0 < wr.heap.size := by omega
                have hz4 := hb4'.size
                clear hRd hge hb4 hb4' bX CC HBX
                cases ys with
                | true =>
                  have hdn : (Cn.offer d ⟨yk, yn, yv⟩).2.2.2 = false := HYN.out rfl
                  cases hyv : validB yk yn yv with
                  | false =>
                    have OO := Lib.hid (offer_bad dd yk yn yv w4 hyv hyz)
                    clear hyv hdn
                    go_wp2_with fail
                    refine OO.out.mono ?_
                    rintro e w5 ⟨rfl, hb5⟩
                    have HN : Hid (WakRel w ns2 d (.slice (some ⟨g, 0, none⟩) d.wait.length cw) w5) := Lib.hid ⟨HO3.out.below (HB4.out.trans (hb5.mono hz4)), HW3.out.below (HB4.out.trans (hb5.mono hz4)), HB3.out.trans ((HB4.out.trans (hb5.mono hz4)).mono hz3)⟩
                    clear hb5
                    go_wp2
                    go_roundw
                    case rel => exact ⟨j + 1, by omega, by go_num, HN.out⟩
                    case measure => simp [intOf]; omega
                  | true =>
                    have OO := Lib.hid (offer_any dd ms d yk yn yv w4 HRd.out HE4.out hyv hyz (by omega))
                    unfold offerPost at OO
                    rw [hdn] at OO
                    generalize (Cn.offer d ⟨yk, yn, yv⟩).2.2.1 = fl at OO
                    clear hyv hdn
                    go_wp2_with fail
                    refine OO.out.mono ?_
                    rintro e w5 ⟨ms', dv, -, rfl, -, -, hF5⟩
                    have hb5 : Below wr.heap.size w4 w5 := hF5.below HGe.out hz4
                    have HN : Hid (WakRel w ns2 d (.slice (some ⟨g, 0, none⟩) d.wait.length cw) w5) := Lib.hid ⟨HO3.out.below (HB4.out.trans hb5), HW3.out.below (HB4.out.trans hb5), HB3.out.trans ((HB4.out.trans hb5).mono hz3)⟩
                    clear hb5 hF5
                    go_wp2
                    go_roundw
                    case rel => exact ⟨j + 1, by omega, by go_num, HN.out⟩
                    case measure => simp [intOf]; omega
                | false =>
                  have hdn : (Cn.take d).2.2.2.2 = false := HYT.out rfl
                  have OO := Lib.hid (take_any dd ms d w4 HRd.out HE4.out (fun x hx => by have := HGe.out x hx; omega))
                  unfold takeFPost at OO
                  rw [hdn] at OO
                  generalize (Cn.take d).2.2.2.1 = fl at OO
                  clear hdn
                  go_wp2_with fail
                  refine OO.out.mono ?_
                  rintro e w5 ⟨ms', dv, -, rfl, -, -, hF5⟩
                  have hb5 : Below wr.heap.size w4 w5 := hF5.below HGe.out hz4
                  have HN : Hid (WakRel w ns2 d (.slice (some ⟨g, 0, none⟩) d.wait.length cw) w5) := Lib.hid ⟨HO3.out.below (HB4.out.trans hb5), HW3.out.below (HB4.out.trans hb5), HB3.out.trans ((HB4.out.trans hb5).mono hz3)⟩
                  clear hb5 hF5
                  go_wp2
                  go_roundw
                  case rel => exact ⟨j + 1, by omega, by go_num, HN.out⟩
                  case measure => simp [intOf]; omega
              · obtain rfl : j = d.wait.length := by omega
                go_wp2
                go_roundw
                case rel => exact ⟨i + 1, by omega, by go_num, ns2, d, HO3.out, HB3.out, HQ2.out, hdd⟩
                case measure => simp [intOf]; omega
      · have j0 : (kd == 0) = false := by simpa using k0
        by_cases k1 : kd = 1
        · subst k1
          have HBX := Lib.hid (Blk.new wr #[.int .i64 1, .int .i64 t, .bool sd, .int .i64 vk, .int .i64 vn, .string vs] 39)
          have RR := Lib.hid (take_any w.heap.size ns c (wr.alloc (.cells #[.int .i64 1, .int .i64 t, .bool sd, .int .i64 vk, .int .i64 vn, .string vs] 39)) (HO.out.rep.alloc _) (HO.out.env.below (one _ _)) HO.out.positive)
          unfold takeFPost at RR
          clear k0
          cases hdn : (Cn.take c).2.2.2.2 with
          | true =>
            rw [hdn] at RR
            have KK := Lib.hid (Cn.take_keeps c)
            have hQ2 := HQ.out.take hdn
            clear hdn
            generalize (Cn.take c).2.2.2.1 = fl at RR
            generalize (Cn.take c).2.2.1 = ds at RR
            generalize (Cn.take c).2.1 = rv at RR
            generalize (Cn.take c).1 = d at RR KK hQ2
            have HQ2 := Lib.hid hQ2
            have hdd : d.dropped ≤ i + 1 := by have := KK.out.dr; omega
            clear hQ2
            cases fl with
            | false =>
              go_wp2_with fail
              refine RR.out.mono ?_
              rintro e w2 ⟨ns1, dv, hs, rfl, hd, hR, hF⟩
              obtain ⟨ns2, hO2, hB2, -, -⟩ := HO.out.next KK.out (by omega) (stepPost.box ⟨ns1, fun x hx => .inl (hs x hx), hR, hF⟩) hzB
              have HO2 := Lib.hid hO2
              have HB2 := Lib.hid (HB.out.trans (hB2.mono (Nat.le_refl _)))
              clear hs hd hR hF hO2 hB2 KK RR HBX
              have hw2 := HO2.out.wl
              have ST : Hid (∀ W, Below w2.heap.size w2 W → Calls Tryd.prog 14 #[.pointer (some ⟨w.heap.size, 0, none⟩)] W (statePost W d)) := Lib.hid fun W hW => state_any w.heap.size ns2 d W (HO2.out.below hW).rep (by omega)
              have hzw := HB2.out.size
              go_wp2_with fail
              refine (ST.out _ ((one _ _).alloc (by simp) _)).mono ?_
              rintro e w3 ⟨bv, wv, he3, hbv, hwv, hb3⟩
              obtain ⟨pb, cb, rfl, -⟩ := hbv.form2
              obtain ⟨pw, cw, rfl, -⟩ := hwv.form2
              unfold stateV at he3
              obtain rfl := he3
              have hb4 := Below.trans ((one _ _).alloc (by simp) _) (hb3.mono (by first | exact Nat.le_refl _ | (simp; done) | (simp; omega)))
              have HI2 : Hid (WakRel w ns2 d (.slice pw d.wait.length cw) w3) := Lib.hid ⟨HO2.out.below hb4, hwv.weaken (Nat.zero_le _), HB2.out.trans (hb4.mono hzw)⟩
              clear hbv hwv hb3 hb4 ST HO2 HB2
              go_wp2_with fail
              rw [field_wait]
              go_wp2_with fail
              go_loopw [97] (fun vj wt => ∃ j : Nat, j ≤ d.wait.length ∧ vj = .int .i64 j ∧ WakRel w ns2 d (.slice pw d.wait.length cw) wt) (fun vj _ => d.wait.length - (intOf vj).toNat)
              case atStart => exact ⟨0, Nat.zero_le _, rfl, HI2.out⟩
              case round =>
                obtain ⟨j, hj, rfl, hO, hW, hB⟩ := hrel
                have HO3 : Hid (Own w wr w.heap.size ns2 d) := Lib.hid hO
                have HW3 := Lib.hid hW
                have HB3 := Lib.hid hB
                have hz3 := hB.size
                clear hO hW hB HI2
                by_cases hltj : j < d.wait.length
                · obtain ⟨y, hy⟩ : ∃ y, d.wait[j]? = some y := ⟨_, List.getElem?_eq_getElem hltj⟩
                  have hym : y ∈ d.wait := List.mem_of_getElem? hy
                  obtain ⟨g, cw', hg, hg1, hg2, -, hg3⟩ := RowAt.pos HW3.out (by omega)
                  cases hg
                  obtain ⟨u0, u1, u2, u3, u4⟩ := WsAt.cells HW3.out hy
                  have hyz := HQ2.out.z y hym
                  have hyn : y.send = true → (Cn.offer d y.v).2.2.2 = false := fun hs => HQ2.out.offer_not hym hs y.v
                  have hyt : y.send = false → (Cn.take d).2.2.2.2 = false := fun hs => HQ2.out.take_not hym hs
                  have HYN := Lib.hid hyn
                  have HYT := Lib.hid hyt
                  clear hyn hyt hy hym
                  obtain ⟨yt, ys, ⟨yk, yn, yv⟩⟩ := y
                  have ij0 : (0 : Int) ≤ (j : Int) := by omega
                  have ij1 : (j : Int) < (d.wait.length : Int) := by omega
                  have CC := Lib.hid (copy_any w.heap.size ns2 d (wr.alloc (.cells #[.int .i64 yt, .bool ys, .int .i64 yk, .int .i64 yn, .string yv] 59)) (HO3.out.rep.alloc _))
                  have HBX := Lib.hid (Blk.new wr #[.int .i64 yt, .bool ys, .int .i64 yk, .int .i64 yn, .string yv] 59)
                  go_wp2_with fail
                  refine CC.out.mono ?_
                  rintro e w4 ⟨dd, ms, rfl, hRd, hge, hb4⟩
                  have bX := HBX.out.below hb4 (by simp)
                  have x1 : w4.cell? ⟨wr.heap.size, 1, none⟩ = some (.bool ys) := bX.cell 1 (by simp)
                  have x2 : w4.cell? ⟨wr.heap.size, 2, none⟩ = some (.int .i64 yk) := bX.cell 2 (by simp)
                  have x3 : w4.cell? ⟨wr.heap.size, 3, none⟩ = some (.int .i64 yn) := bX.cell 3 (by simp)
                  have x4 : w4.cell? ⟨wr.heap.size, 4, none⟩ = some (.string yv) := bX.cell 4 (by simp)
                  have hx4 := bX.lt
                  have HRd := Lib.hid hRd
                  have hb4' : Below wr.heap.size wr w4 := (one _ _).trans (hb4.mono (by simp))
                  have HB4 := Lib.hid hb4'
                  have HE4 := Lib.hid (HO3.out.env.below hb4')
                  have HGe : Hid (∀ x ∈ dd :: ms, wr.heap.size ≤ x) := Lib.hid fun x hx => by have := hge x hx; simp at this; omega
                  have hzr : 0 < wr.heap.size := by omega
                  have hz4 := hb4'.size
                  clear hRd hge hb4 hb4' bX CC HBX
                  cases ys with
                  | true =>
                    have hdn : (Cn.offer d ⟨yk, yn, yv⟩).2.2.2 = false := HYN.out rfl
                    cases hyv : validB yk yn yv with
                    | false =>
                      have OO := Lib.hid (offer_bad dd yk yn yv w4 hyv hyz)
                      clear hyv hdn
                      go_wp2_with fail
                      refine OO.out.mono ?_
                      rintro e w5 ⟨rfl, hb5⟩
                      have HN : Hid (WakRel w ns2 d (.slice (some ⟨g, 0, none⟩) d.wait.length cw) w5) := Lib.hid ⟨HO3.out.below (HB4.out.trans (hb5.mono hz4)), HW3.out.below (HB4.out.trans (hb5.mono hz4)), HB3.out.trans ((HB4.out.trans (hb5.mono hz4)).mono hz3)⟩
                      clear hb5
                      go_wp2
                      go_roundw
                      case rel => exact ⟨j + 1, by omega, by go_num, HN.out⟩
                      case measure => simp [intOf]; omega
                    | true =>
                      have OO := Lib.hid (offer_any dd ms d yk yn yv w4 HRd.out HE4.out hyv hyz (by omega))
                      unfold offerPost at OO
                      rw [hdn] at OO
                      generalize (Cn.offer d ⟨yk, yn, yv⟩).2.2.1 = fl at OO
                      clear hyv hdn
                      go_wp2_with fail
                      refine OO.out.mono ?_
                      rintro e w5 ⟨ms', dv, -, rfl, -, -, hF5⟩
                      have hb5 : Below wr.heap.size w4 w5 := hF5.below HGe.out hz4
                      have HN : Hid (WakRel w ns2 d (.slice (some ⟨g, 0, none⟩) d.wait.length cw) w5) := Lib.hid ⟨HO3.out.below (HB4.out.trans hb5), HW3.out.below (HB4.out.trans hb5), HB3.out.trans ((HB4.out.trans hb5).mono hz3)⟩
                      clear hb5 hF5
                      go_wp2
                      go_roundw
                      case rel => exact ⟨j + 1, by omega, by go_num, HN.out⟩
                      case measure => simp [intOf]; omega
                  | false =>
                    have hdn : (Cn.take d).2.2.2.2 = false := HYT.out rfl
                    have OO := Lib.hid (take_any dd ms d w4 HRd.out HE4.out (fun x hx => by have := HGe.out x hx; omega))
                    unfold takeFPost at OO
                    rw [hdn] at OO
                    generalize (Cn.take d).2.2.2.1 = fl at OO
                    clear hdn
                    go_wp2_with fail
                    refine OO.out.mono ?_
                    rintro e w5 ⟨ms', dv, -, rfl, -, -, hF5⟩
                    have hb5 : Below wr.heap.size w4 w5 := hF5.below HGe.out hz4
                    have HN : Hid (WakRel w ns2 d (.slice (some ⟨g, 0, none⟩) d.wait.length cw) w5) := Lib.hid ⟨HO3.out.below (HB4.out.trans hb5), HW3.out.below (HB4.out.trans hb5), HB3.out.trans ((HB4.out.trans hb5).mono hz3)⟩
                    clear hb5 hF5
                    go_wp2
                    go_roundw
                    case rel => exact ⟨j + 1, by omega, by go_num, HN.out⟩
                    case measure => simp [intOf]; omega
                · obtain rfl : j = d.wait.length := by omega
                  go_wp2
                  go_roundw
                  case rel => exact ⟨i + 1, by omega, by go_num, ns2, d, HO3.out, HB3.out, HQ2.out, hdd⟩
                  case measure => simp [intOf]; omega
            | true =>
              go_wp2_with fail
              refine RR.out.mono ?_
              rintro e w2 ⟨ns1, dv, hs, rfl, hd, hR, hF⟩
              obtain ⟨ns2, hO2, hB2, -, -⟩ := HO.out.next KK.out (by omega) (stepPost.box ⟨ns1, fun x hx => .inl (hs x hx), hR, hF⟩) hzB
              have HO2 := Lib.hid hO2
              have HB2 := Lib.hid (HB.out.trans (hB2.mono (Nat.le_refl _)))
              clear hs hd hR hF hO2 hB2 KK RR HBX
              have hw2 := HO2.out.wl
              have ST : Hid (∀ W, Below w2.heap.size w2 W → Calls Tryd.prog 14 #[.pointer (some ⟨w.heap.size, 0, none⟩)] W (statePost W d)) := Lib.hid fun W hW => state_any w.heap.size ns2 d W (HO2.out.below hW).rep (by omega)
              have hzw := HB2.out.size
              go_wp2_with fail
              refine (ST.out _ ((one _ _).alloc (by simp) _)).mono ?_
              rintro e w3 ⟨bv, wv, he3, hbv, hwv, hb3⟩
              obtain ⟨pb, cb, rfl, -⟩ := hbv.form2
              obtain ⟨pw, cw, rfl, -⟩ := hwv.form2
              unfold stateV at he3
              obtain rfl := he3
              have hb4 := Below.trans ((one _ _).alloc (by simp) _) (hb3.mono (by first | exact Nat.le_refl _ | (simp; done) | (simp; omega)))
              have HI2 : Hid (WakRel w ns2 d (.slice pw d.wait.length cw) w3) := Lib.hid ⟨HO2.out.below hb4, hwv.weaken (Nat.zero_le _), HB2.out.trans (hb4.mono hzw)⟩
              clear hbv hwv hb3 hb4 ST HO2 HB2
              go_wp2_with fail
              rw [field_wait]
              go_wp2_with fail
              go_loopw [97] (fun vj wt => ∃ j : Nat, j ≤ d.wait.length ∧ vj = .int .i64 j ∧ WakRel w ns2 d (.slice pw d.wait.length cw) wt) (fun vj _ => d.wait.length - (intOf vj).toNat)
              case atStart => exact ⟨0, Nat.zero_le _, rfl, HI2.out⟩
              case round =>
                obtain ⟨j, hj, rfl, hO, hW, hB⟩ := hrel
                have HO3 : Hid (Own w wr w.heap.size ns2 d) := Lib.hid hO
                have HW3 := Lib.hid hW
                have HB3 := Lib.hid hB
                have hz3 := hB.size
                clear hO hW hB HI2
                by_cases hltj : j < d.wait.length
                · obtain ⟨y, hy⟩ : ∃ y, d.wait[j]? = some y := ⟨_, List.getElem?_eq_getElem hltj⟩
                  have hym : y ∈ d.wait := List.mem_of_getElem? hy
                  obtain ⟨g, cw', hg, hg1, hg2, -, hg3⟩ := RowAt.pos HW3.out (by omega)
                  cases hg
                  obtain ⟨u0, u1, u2, u3, u4⟩ := WsAt.cells HW3.out hy
                  have hyz := HQ2.out.z y hym
                  have hyn : y.send = true → (Cn.offer d y.v).2.2.2 = false := fun hs => HQ2.out.offer_not hym hs y.v
                  have hyt : y.send = false → (Cn.take d).2.2.2.2 = false := fun hs => HQ2.out.take_not hym hs
                  have HYN := Lib.hid hyn
                  have HYT := Lib.hid hyt
                  clear hyn hyt hy hym
                  obtain ⟨yt, ys, ⟨yk, yn, yv⟩⟩ := y
                  have ij0 : (0 : Int) ≤ (j : Int) := by omega
                  have ij1 : (j : Int) < (d.wait.length : Int) := by omega
                  have CC := Lib.hid (copy_any w.heap.size ns2 d (wr.alloc (.cells #[.int .i64 yt, .bool ys, .int .i64 yk, .int .i64 yn, .string yv] 59)) (HO3.out.rep.alloc _))
                  have HBX := Lib.hid (Blk.new wr #[.int .i64 yt, .bool ys, .int .i64 yk, .int .i64 yn, .string yv] 59)
                  go_wp2_with fail
                  refine CC.out.mono ?_
                  rintro e w4 ⟨dd, ms, rfl, hRd, hge, hb4⟩
                  have bX := HBX.out.below hb4 (by simp)
                  have x1 : w4.cell? ⟨wr.heap.size, 1, none⟩ = some (.bool ys) := bX.cell 1 (by simp)
                  have x2 : w4.cell? ⟨wr.heap.size, 2, none⟩ = some (.int .i64 yk) := bX.cell 2 (by simp)
                  have x3 : w4.cell? ⟨wr.heap.size, 3, none⟩ = some (.int .i64 yn) := bX.cell 3 (by simp)
                  have x4 : w4.cell? ⟨wr.heap.size, 4, none⟩ = some (.string yv) := bX.cell 4 (by simp)
                  have hx4 := bX.lt
                  have HRd := Lib.hid hRd
                  have hb4' : Below wr.heap.size wr w4 := (one _ _).trans (hb4.mono (by simp))
                  have HB4 := Lib.hid hb4'
                  have HE4 := Lib.hid (HO3.out.env.below hb4')
                  have HGe : Hid (∀ x ∈ dd :: ms, wr.heap.size ≤ x) := Lib.hid fun x hx => by have := hge x hx; simp at this; omega
                  have hzr : 0 < wr.heap.size := by omega
                  have hz4 := hb4'.size
                  clear hRd hge hb4 hb4' bX CC HBX
                  cases ys with
                  | true =>
                    have hdn : (Cn.offer d ⟨yk, yn, yv⟩).2.2.2 = false := HYN.out rfl
                    cases hyv : validB yk yn yv with
                    | false =>
                      have OO := Lib.hid (offer_bad dd yk yn yv w4 hyv hyz)
                      clear hyv hdn
                      go_wp2_with fail
                      refine OO.out.mono ?_
                      rintro e w5 ⟨rfl, hb5⟩
                      have HN : Hid (WakRel w ns2 d (.slice (some ⟨g, 0, none⟩) d.wait.length cw) w5) := Lib.hid ⟨HO3.out.below (HB4.out.trans (hb5.mono hz4)), HW3.out.below (HB4.out.trans (hb5.mono hz4)), HB3.out.trans ((HB4.out.trans (hb5.mono hz4)).mono hz3)⟩
                      clear hb5
                      go_wp2
                      go_roundw
                      case rel => exact ⟨j + 1, by omega, by go_num, HN.out⟩
                      case measure => simp [intOf]; omega
                    | true =>
                      have OO := Lib.hid (offer_any dd ms d yk yn yv w4 HRd.out HE4.out hyv hyz (by omega))
                      unfold offerPost at OO
                      rw [hdn] at OO
                      generalize (Cn.offer d ⟨yk, yn, yv⟩).2.2.1 = fl at OO
                      clear hyv hdn
                      go_wp2_with fail
                      refine OO.out.mono ?_
                      rintro e w5 ⟨ms', dv, -, rfl, -, -, hF5⟩
                      have hb5 : Below wr.heap.size w4 w5 := hF5.below HGe.out hz4
                      have HN : Hid (WakRel w ns2 d (.slice (some ⟨g, 0, none⟩) d.wait.length cw) w5) := Lib.hid ⟨HO3.out.below (HB4.out.trans hb5), HW3.out.below (HB4.out.trans hb5), HB3.out.trans ((HB4.out.trans hb5).mono hz3)⟩
                      clear hb5 hF5
                      go_wp2
                      go_roundw
                      case rel => exact ⟨j + 1, by omega, by go_num, HN.out⟩
                      case measure => simp [intOf]; omega
                  | false =>
                    have hdn : (Cn.take d).2.2.2.2 = false := HYT.out rfl
                    have OO := Lib.hid (take_any dd ms d w4 HRd.out HE4.out (fun x hx => by have := HGe.out x hx; omega))
                    unfold takeFPost at OO
                    rw [hdn] at OO
                    generalize (Cn.take d).2.2.2.1 = fl at OO
                    clear hdn
                    go_wp2_with fail
                    refine OO.out.mono ?_
                    rintro e w5 ⟨ms', dv, -, rfl, -, -, hF5⟩
                    have hb5 : Below wr.heap.size w4 w5 := hF5.below HGe.out hz4
                    have HN : Hid (WakRel w ns2 d (.slice (some ⟨g, 0, none⟩) d.wait.length cw) w5) := Lib.hid ⟨HO3.out.below (HB4.out.trans hb5), HW3.out.below (HB4.out.trans hb5), HB3.out.trans ((HB4.out.trans hb5).mono hz3)⟩
                    clear hb5 hF5
                    go_wp2
                    go_roundw
                    case rel => exact ⟨j + 1, by omega, by go_num, HN.out⟩
                    case measure => simp [intOf]; omega
                · obtain rfl : j = d.wait.length := by omega
                  go_wp2
                  go_roundw
                  case rel => exact ⟨i + 1, by omega, by go_num, ns2, d, HO3.out, HB3.out, HQ2.out, hdd⟩
                  case measure => simp [intOf]; omega
          | false =>
            rw [hdn, (Cn.take_same hdn).1, Cn.take_fl hdn] at RR
            have HQ2 := Lib.hid (park_receive HQ.out ((i : Int) + 1) ⟨vk, vn, vs⟩ hdn)
            have KK := Lib.hid (park_keeps c ((i : Int) + 1) false ⟨vk, vn, vs⟩)
            clear hdn
            generalize (Cn.take c).2.2.1 = ds at RR
            generalize (Cn.take c).2.1 = rv at RR
            go_wp2_with fail
            refine RR.out.mono ?_
            rintro e wa ⟨ns1, dv, hs, rfl, hd, hR, hF⟩
            have hnx : wr.heap.size ∉ w.heap.size :: ns := fun hm => by have := HO.out.rep.lt _ hm; omega
            have bX := HBX.out.fr hF hnx
            have y3 : wa.cell? ⟨wr.heap.size, 3, none⟩ = some (.int .i64 vk) := bX.cell 3 (by simp)
            have y4 : wa.cell? ⟨wr.heap.size, 4, none⟩ = some (.int .i64 vn) := bX.cell 4 (by simp)
            have y5 : wa.cell? ⟨wr.heap.size, 5, none⟩ = some (.string vs) := bX.cell 5 (by simp)
            have hxl := bX.lt
            obtain ⟨nsa, hOa, hBa, -, -⟩ := HO.out.next (Cn.Keeps.refl c) (by omega) (stepPost.box ⟨ns1, fun x hx => .inl (hs x hx), hR, hF⟩) hzB
            have HOa := Lib.hid hOa
            have HBa := Lib.hid (HB.out.trans (hBa.mono (Nat.le_refl _)))
            have PP : Hid (∀ o o', Calls Tryd.prog 18 #[.pointer (some ⟨w.heap.size, 0, none⟩), .int .i64 ((i : Int) + 1), .bool false, valV vk vn vs] ((wa.alloc o).alloc o') (parkPost ((wa.alloc o).alloc o') w.heap.size nsa c ((i : Int) + 1) false ⟨vk, vn, vs⟩)) := Lib.hid fun o o' => (callsIn_wide (n := 4)).1 (parkfalse_in 4 (by omega) w.heap.size nsa c ((i : Int) + 1) vk vn vs ((wa.alloc o).alloc o') ((HOa.out.rep.alloc o).alloc o') (by omega) (by omega))
            have hza := HBa.out.size
            clear hs hd hR hF hOa hBa bX RR
            go_wp2_with fail
            refine (PP.out _ _).mono ?_
            rintro e w2 ⟨ns3, hs3, rfl, hR3, hF3⟩
            generalize park c ((i : Int) + 1) false ⟨vk, vn, vs⟩ = pr at *
            obtain ⟨d, er⟩ := pr
            obtain ⟨ns2, hO2, hB2, -, -⟩ := HOa.out.next KK.out (by omega) (stepPost.box (stepPost.box ⟨ns3, hs3, hR3, hF3⟩)) hza
            have HO2 : Hid (Own w w2 w.heap.size ns2 d) := Lib.hid hO2
            have HB2 := Lib.hid (HBa.out.trans (hB2.mono (Nat.le_refl _)))
            have hdd : d.dropped ≤ i + 1 := by have := KK.out.dr; simp at this; omega
            replace HQ2 : Hid (Cn.Q d) := HQ2
            clear hs3 hR3 hF3 hO2 hB2 KK PP y3 y4 y5 hxl HBX HOa HBa hza
            have hw2 := HO2.out.wl
            have ST : Hid (∀ W, Below w2.heap.size w2 W → Calls Tryd.prog 14 #[.pointer (some ⟨w.heap.size, 0, none⟩)] W (statePost W d)) := Lib.hid fun W hW => state_any w.heap.size ns2 d W (HO2.out.below hW).rep (by omega)
            have hzw := HB2.out.size
            go_wp2_with fail
            refine (ST.out _ (Below.refl _ _)).mono ?_
            rintro e w3 ⟨bv, wv, he3, hbv, hwv, hb3⟩
            obtain ⟨pb, cb, rfl, -⟩ := hbv.form2
            obtain ⟨pw, cw, rfl, -⟩ := hwv.form2
            unfold stateV at he3
            obtain rfl := he3
            have hb4 := Below.trans (Below.refl _ _) (hb3.mono (by first | exact Nat.le_refl _ | (simp; done) | (simp; omega)))
            have HI2 : Hid (WakRel w ns2 d (.slice pw d.wait.length cw) w3) := Lib.hid ⟨HO2.out.below hb4, hwv.weaken (Nat.zero_le _), HB2.out.trans (hb4.mono hzw)⟩
            clear hbv hwv hb3 hb4 ST HO2 HB2
            go_wp2_with fail
            rw [field_wait]
            go_wp2_with fail
            go_loopw [97] (fun vj wt => ∃ j : Nat, j ≤ d.wait.length ∧ vj = .int .i64 j ∧ WakRel w ns2 d (.slice pw d.wait.length cw) wt) (fun vj _ => d.wait.length - (intOf vj).toNat)
            case atStart => exact ⟨0, Nat.zero_le _, rfl, HI2.out⟩
            case round =>
              obtain ⟨j, hj, rfl, hO, hW, hB⟩ := hrel
              have HO3 : Hid (Own w wr w.heap.size ns2 d) := Lib.hid hO
              have HW3 := Lib.hid hW
              have HB3 := Lib.hid hB
              have hz3 := hB.size
              clear hO hW hB HI2
              by_cases hltj : j < d.wait.length
              · obtain ⟨y, hy⟩ : ∃ y, d.wait[j]? = some y := ⟨_, List.getElem?_eq_getElem hltj⟩
                have hym : y ∈ d.wait := List.mem_of_getElem? hy
                obtain ⟨g, cw', hg, hg1, hg2, -, hg3⟩ := RowAt.pos HW3.out (by omega)
                cases hg
                obtain ⟨u0, u1, u2, u3, u4⟩ := WsAt.cells HW3.out hy
                have hyz := HQ2.out.z y hym
                have hyn : y.send = true → (Cn.offer d y.v).2.2.2 = false := fun hs => HQ2.out.offer_not hym hs y.v
                have hyt : y.send = false → (Cn.take d).2.2.2.2 = false := fun hs => HQ2.out.take_not hym hs
                have HYN := Lib.hid hyn
                have HYT := Lib.hid hyt
                clear hyn hyt hy hym
                obtain ⟨yt, ys, ⟨yk, yn, yv⟩⟩ := y
                have ij0 : (0 : Int) ≤ (j : Int) := by omega
                have ij1 : (j : Int) < (d.wait.length : Int) := by omega
                have CC := Lib.hid (copy_any w.heap.size ns2 d (wr.alloc (.cells #[.int .i64 yt, .bool ys, .int .i64 yk, .int .i64 yn, .string yv] 59)) (HO3.out.rep.alloc _))
                have HBX := Lib.hid (Blk.new wr #[.int .i64 yt, .bool ys, .int .i64 yk, .int .i64 yn, .string yv] 59)
                go_wp2_with fail
                refine CC.out.mono ?_
                rintro e w4 ⟨dd, ms, rfl, hRd, hge, hb4⟩
                have bX := HBX.out.below hb4 (by simp)
                have x1 : w4.cell? ⟨wr.heap.size, 1, none⟩ = some (.bool ys) := bX.cell 1 (by simp)
                have x2 : w4.cell? ⟨wr.heap.size, 2, none⟩ = some (.int .i64 yk) := bX.cell 2 (by simp)
                have x3 : w4.cell? ⟨wr.heap.size, 3, none⟩ = some (.int .i64 yn) := bX.cell 3 (by simp)
                have x4 : w4.cell? ⟨wr.heap.size, 4, none⟩ = some (.string yv) := bX.cell 4 (by simp)
                have hx4 := bX.lt
                have HRd := Lib.hid hRd
                have hb4' : Below wr.heap.size wr w4 := (one _ _).trans (hb4.mono (by simp))
                have HB4 := Lib.hid hb4'
                have HE4 := Lib.hid (HO3.out.env.below hb4')
                have HGe : Hid (∀ x ∈ dd :: ms, wr.heap.size ≤ x) := Lib.hid fun x hx => by have := hge x hx; simp at this; omega
                have hzr : 0 < wr.heap.size := by omega
                have hz4 := hb4'.size
                clear hRd hge hb4 hb4' bX CC HBX
                cases ys with
                | true =>
                  have hdn : (Cn.offer d ⟨yk, yn, yv⟩).2.2.2 = false := HYN.out rfl
                  cases hyv : validB yk yn yv with
                  | false =>
                    have OO := Lib.hid (offer_bad dd yk yn yv w4 hyv hyz)
                    clear hyv hdn
                    go_wp2_with fail
                    refine OO.out.mono ?_
                    rintro e w5 ⟨rfl, hb5⟩
                    have HN : Hid (WakRel w ns2 d (.slice (some ⟨g, 0, none⟩) d.wait.length cw) w5) := Lib.hid ⟨HO3.out.below (HB4.out.trans (hb5.mono hz4)), HW3.out.below (HB4.out.trans (hb5.mono hz4)), HB3.out.trans ((HB4.out.trans (hb5.mono hz4)).mono hz3)⟩
                    clear hb5
                    go_wp2
                    go_roundw
                    case rel => exact ⟨j + 1, by omega, by go_num, HN.out⟩
                    case measure => simp [intOf]; omega
                  | true =>
                    have OO := Lib.hid (offer_any dd ms d yk yn yv w4 HRd.out HE4.out hyv hyz (by omega))
                    unfold offerPost at OO
                    rw [hdn] at OO
                    generalize (Cn.offer d ⟨yk, yn, yv⟩).2.2.1 = fl at OO
                    clear hyv hdn
                    go_wp2_with fail
                    refine OO.out.mono ?_
                    rintro e w5 ⟨ms', dv, -, rfl, -, -, hF5⟩
                    have hb5 : Below wr.heap.size w4 w5 := hF5.below HGe.out hz4
                    have HN : Hid (WakRel w ns2 d (.slice (some ⟨g, 0, none⟩) d.wait.length cw) w5) := Lib.hid ⟨HO3.out.below (HB4.out.trans hb5), HW3.out.below (HB4.out.trans hb5), HB3.out.trans ((HB4.out.trans hb5).mono hz3)⟩
                    clear hb5 hF5
                    go_wp2
                    go_roundw
                    case rel => exact ⟨j + 1, by omega, by go_num, HN.out⟩
                    case measure => simp [intOf]; omega
                | false =>
                  have hdn : (Cn.take d).2.2.2.2 = false := HYT.out rfl
                  have OO := Lib.hid (take_any dd ms d w4 HRd.out HE4.out (fun x hx => by have := HGe.out x hx; omega))
                  unfold takeFPost at OO
                  rw [hdn] at OO
                  generalize (Cn.take d).2.2.2.1 = fl at OO
                  clear hdn
                  go_wp2_with fail
                  refine OO.out.mono ?_
                  rintro e w5 ⟨ms', dv, -, rfl, -, -, hF5⟩
                  have hb5 : Below wr.heap.size w4 w5 := hF5.below HGe.out hz4
                  have HN : Hid (WakRel w ns2 d (.slice (some ⟨g, 0, none⟩) d.wait.length cw) w5) := Lib.hid ⟨HO3.out.below (HB4.out.trans hb5), HW3.out.below (HB4.out.trans hb5), HB3.out.trans ((HB4.out.trans hb5).mono hz3)⟩
                  clear hb5 hF5
                  go_wp2
                  go_roundw
                  case rel => exact ⟨j + 1, by omega, by go_num, HN.out⟩
                  case measure => simp [intOf]; omega
              · obtain rfl : j = d.wait.length := by omega
                go_wp2
                go_roundw
                case rel => exact ⟨i + 1, by omega, by go_num, ns2, d, HO3.out, HB3.out, HQ2.out, hdd⟩
                case measure => simp [intOf]; omega
        · have j1 : (kd == 1) = false := by simpa using k1
          by_cases k3 : kd = 3
          · subst k3
            have RR := Lib.hid (withdraw_any w.heap.size ns c t (wr.alloc (.cells #[.int .i64 3, .int .i64 t, .bool sd, .int .i64 vk, .int .i64 vn, .string vs] 39)) (HO.out.rep.alloc _))
            unfold withdrawPost at RR
            have KK : Hid (Cn.Keeps c { c with wait := Cn.rest (fun x => x.t == t) c.wait }) := Lib.hid ⟨rfl, rfl, fun hw => Nat.le_trans (Cn.rest_len _ _) hw, by simp⟩
            have hQ2 := HQ.out.sub (ws := Cn.rest (fun x => x.t == t) c.wait) Cn.rest_sub
            generalize ({ c with wait := Cn.rest (fun x => x.t == t) c.wait } : Cn.St) = d at RR KK hQ2
            have HQ2 := Lib.hid hQ2
            have hdd : d.dropped ≤ i + 1 := by have := KK.out.dr; omega
            clear k0 k1 hQ2
            go_wp2_with fail
            refine RR.out.mono ?_
            rintro e w2 ⟨ns1, hs, rfl, hR, hF⟩
            obtain ⟨ns2, hO2, hB2, -, -⟩ := HO.out.next KK.out (by omega) (stepPost.box ⟨ns1, fun x hx => .inl (hs x hx), hR, hF⟩) hzB
            have HO2 := Lib.hid hO2
            have HB2 := Lib.hid (HB.out.trans (hB2.mono (Nat.le_refl _)))
            clear hs hR hF hO2 hB2 KK RR
            have hw2 := HO2.out.wl
            have ST : Hid (∀ W, Below w2.heap.size w2 W → Calls Tryd.prog 14 #[.pointer (some ⟨w.heap.size, 0, none⟩)] W (statePost W d)) := Lib.hid fun W hW => state_any w.heap.size ns2 d W (HO2.out.below hW).rep (by omega)
            have hzw := HB2.out.size
            go_wp2_with fail
            refine (ST.out _ (Below.refl _ _)).mono ?_
            rintro e w3 ⟨bv, wv, he3, hbv, hwv, hb3⟩
            obtain ⟨pb, cb, rfl, -⟩ := hbv.form2
            obtain ⟨pw, cw, rfl, -⟩ := hwv.form2
            unfold stateV at he3
            obtain rfl := he3
            have hb4 := Below.trans (Below.refl _ _) (hb3.mono (by first | exact Nat.le_refl _ | (simp; done) | (simp; omega)))
            have HI2 : Hid (WakRel w ns2 d (.slice pw d.wait.length cw) w3) := Lib.hid ⟨HO2.out.below hb4, hwv.weaken (Nat.zero_le _), HB2.out.trans (hb4.mono hzw)⟩
            clear hbv hwv hb3 hb4 ST HO2 HB2
            go_wp2_with fail
            rw [field_wait]
            go_wp2_with fail
            go_loopw [97] (fun vj wt => ∃ j : Nat, j ≤ d.wait.length ∧ vj = .int .i64 j ∧ WakRel w ns2 d (.slice pw d.wait.length cw) wt) (fun vj _ => d.wait.length - (intOf vj).toNat)
            case atStart => exact ⟨0, Nat.zero_le _, rfl, HI2.out⟩
            case round =>
              obtain ⟨j, hj, rfl, hO, hW, hB⟩ := hrel
              have HO3 : Hid (Own w wr w.heap.size ns2 d) := Lib.hid hO
              have HW3 := Lib.hid hW
              have HB3 := Lib.hid hB
              have hz3 := hB.size
              clear hO hW hB HI2
              by_cases hltj : j < d.wait.length
              · obtain ⟨y, hy⟩ : ∃ y, d.wait[j]? = some y := ⟨_, List.getElem?_eq_getElem hltj⟩
                have hym : y ∈ d.wait := List.mem_of_getElem? hy
                obtain ⟨g, cw', hg, hg1, hg2, -, hg3⟩ := RowAt.pos HW3.out (by omega)
                cases hg
                obtain ⟨u0, u1, u2, u3, u4⟩ := WsAt.cells HW3.out hy
                have hyz := HQ2.out.z y hym
                have hyn : y.send = true → (Cn.offer d y.v).2.2.2 = false := fun hs => HQ2.out.offer_not hym hs y.v
                have hyt : y.send = false → (Cn.take d).2.2.2.2 = false := fun hs => HQ2.out.take_not hym hs
                have HYN := Lib.hid hyn
                have HYT := Lib.hid hyt
                clear hyn hyt hy hym
                obtain ⟨yt, ys, ⟨yk, yn, yv⟩⟩ := y
                have ij0 : (0 : Int) ≤ (j : Int) := by omega
                have ij1 : (j : Int) < (d.wait.length : Int) := by omega
                have CC := Lib.hid (copy_any w.heap.size ns2 d (wr.alloc (.cells #[.int .i64 yt, .bool ys, .int .i64 yk, .int .i64 yn, .string yv] 59)) (HO3.out.rep.alloc _))
                have HBX := Lib.hid (Blk.new wr #[.int .i64 yt, .bool ys, .int .i64 yk, .int .i64 yn, .string yv] 59)
                go_wp2_with fail
                refine CC.out.mono ?_
                rintro e w4 ⟨dd, ms, rfl, hRd, hge, hb4⟩
                have bX := HBX.out.below hb4 (by simp)
                have x1 : w4.cell? ⟨wr.heap.size, 1, none⟩ = some (.bool ys) := bX.cell 1 (by simp)
                have x2 : w4.cell? ⟨wr.heap.size, 2, none⟩ = some (.int .i64 yk) := bX.cell 2 (by simp)
                have x3 : w4.cell? ⟨wr.heap.size, 3, none⟩ = some (.int .i64 yn) := bX.cell 3 (by simp)
                have x4 : w4.cell? ⟨wr.heap.size, 4, none⟩ = some (.string yv) := bX.cell 4 (by simp)
                have hx4 := bX.lt
                have HRd := Lib.hid hRd
                have hb4' : Below wr.heap.size wr w4 := (one _ _).trans (hb4.mono (by simp))
                have HB4 := Lib.hid hb4'
                have HE4 := Lib.hid (HO3.out.env.below hb4')
                have HGe : Hid (∀ x ∈ dd :: ms, wr.heap.size ≤ x) := Lib.hid fun x hx => by have := hge x hx; simp at this; omega
                have hzr : 0 < wr.heap.size := by omega
                have hz4 := hb4'.size
                clear hRd hge hb4 hb4' bX CC HBX
                cases ys with
                | true =>
                  have hdn : (Cn.offer d ⟨yk, yn, yv⟩).2.2.2 = false := HYN.out rfl
                  cases hyv : validB yk yn yv with
                  | false =>
                    have OO := Lib.hid (offer_bad dd yk yn yv w4 hyv hyz)
                    clear hyv hdn
                    go_wp2_with fail
                    refine OO.out.mono ?_
                    rintro e w5 ⟨rfl, hb5⟩
                    have HN : Hid (WakRel w ns2 d (.slice (some ⟨g, 0, none⟩) d.wait.length cw) w5) := Lib.hid ⟨HO3.out.below (HB4.out.trans (hb5.mono hz4)), HW3.out.below (HB4.out.trans (hb5.mono hz4)), HB3.out.trans ((HB4.out.trans (hb5.mono hz4)).mono hz3)⟩
                    clear hb5
                    go_wp2
                    go_roundw
                    case rel => exact ⟨j + 1, by omega, by go_num, HN.out⟩
                    case measure => simp [intOf]; omega
                  | true =>
                    have OO := Lib.hid (offer_any dd ms d yk yn yv w4 HRd.out HE4.out hyv hyz (by omega))
                    unfold offerPost at OO
                    rw [hdn] at OO
                    generalize (Cn.offer d ⟨yk, yn, yv⟩).2.2.1 = fl at OO
                    clear hyv hdn
                    go_wp2_with fail
                    refine OO.out.mono ?_
                    rintro e w5 ⟨ms', dv, -, rfl, -, -, hF5⟩
                    have hb5 : Below wr.heap.size w4 w5 := hF5.below HGe.out hz4
                    have HN : Hid (WakRel w ns2 d (.slice (some ⟨g, 0, none⟩) d.wait.length cw) w5) := Lib.hid ⟨HO3.out.below (HB4.out.trans hb5), HW3.out.below (HB4.out.trans hb5), HB3.out.trans ((HB4.out.trans hb5).mono hz3)⟩
                    clear hb5 hF5
                    go_wp2
                    go_roundw
                    case rel => exact ⟨j + 1, by omega, by go_num, HN.out⟩
                    case measure => simp [intOf]; omega
                | false =>
                  have hdn : (Cn.take d).2.2.2.2 = false := HYT.out rfl
                  have OO := Lib.hid (take_any dd ms d w4 HRd.out HE4.out (fun x hx => by have := HGe.out x hx; omega))
                  unfold takeFPost at OO
                  rw [hdn] at OO
                  generalize (Cn.take d).2.2.2.1 = fl at OO
                  clear hdn
                  go_wp2_with fail
                  refine OO.out.mono ?_
                  rintro e w5 ⟨ms', dv, -, rfl, -, -, hF5⟩
                  have hb5 : Below wr.heap.size w4 w5 := hF5.below HGe.out hz4
                  have HN : Hid (WakRel w ns2 d (.slice (some ⟨g, 0, none⟩) d.wait.length cw) w5) := Lib.hid ⟨HO3.out.below (HB4.out.trans hb5), HW3.out.below (HB4.out.trans hb5), HB3.out.trans ((HB4.out.trans hb5).mono hz3)⟩
                  clear hb5 hF5
                  go_wp2
                  go_roundw
                  case rel => exact ⟨j + 1, by omega, by go_num, HN.out⟩
                  case measure => simp [intOf]; omega
              · obtain rfl : j = d.wait.length := by omega
                go_wp2
                go_roundw
                case rel => exact ⟨i + 1, by omega, by go_num, ns2, d, HO3.out, HB3.out, HQ2.out, hdd⟩
                case measure => simp [intOf]; omega
          · have j3 : (kd == 3) = false := by simpa using k3
            by_cases k4 : kd = 4
            · subst k4
              clear k0 k1 k3
              cases hc : c.closed with
              | true =>
                have RR := Lib.hid (close_closed w.heap.size ns c (wr.alloc (.cells #[.int .i64 4, .int .i64 t, .bool sd, .int .i64 vk, .int .i64 vn, .string vs] 39)) (HO.out.rep.alloc _) hc)
                clear hc
                go_wp2_with fail
                refine RR.out.mono ?_
                rintro e w2 ⟨rfl, hw2⟩
                have hbb := one wr (.cells #[.int .i64 4, .int .i64 t, .bool sd, .int .i64 vk, .int .i64 vn, .string vs] 39)
                rw [hw2] at hbb
                obtain ⟨d, ns2, HO2, HB2, HQ2, hdd⟩ : ∃ d ns2, Hid (Own w w2 w.heap.size ns2 d) ∧ Hid (Below w.heap.size w w2) ∧ Hid (Cn.Q d) ∧ d.dropped ≤ i + 1 := ⟨c, ns, Lib.hid (HO.out.below hbb), Lib.hid (HB.out.trans (hbb.mono hzB)), HQ, by omega⟩
                clear hbb hw2 RR
                have hw2 := HO2.out.wl
                have ST : Hid (∀ W, Below w2.heap.size w2 W → Calls Tryd.prog 14 #[.pointer (some ⟨w.heap.size, 0, none⟩)] W (statePost W d)) := Lib.hid fun W hW => state_any w.heap.size ns2 d W (HO2.out.below hW).rep (by omega)
                have hzw := HB2.out.size
                go_wp2_with fail
                refine (ST.out _ (Below.refl _ _)).mono ?_
                rintro e w3 ⟨bv, wv, he3, hbv, hwv, hb3⟩
                obtain ⟨pb, cb, rfl, -⟩ := hbv.form2
                obtain ⟨pw, cw, rfl, -⟩ := hwv.form2
                unfold stateV at he3
                obtain rfl := he3
                have hb4 := Below.trans (Below.refl _ _) (hb3.mono (by first | exact Nat.le_refl _ | (simp; done) | (simp; omega)))
                have HI2 : Hid (WakRel w ns2 d (.slice pw d.wait.length cw) w3) := Lib.hid ⟨HO2.out.below hb4, hwv.weaken (Nat.zero_le _), HB2.out.trans (hb4.mono hzw)⟩
                clear hbv hwv hb3 hb4 ST HO2 HB2
                go_wp2_with fail
                rw [field_wait]
                go_wp2_with fail
                go_loopw [97] (fun vj wt => ∃ j : Nat, j ≤ d.wait.length ∧ vj = .int .i64 j ∧ WakRel w ns2 d (.slice pw d.wait.length cw) wt) (fun vj _ => d.wait.length - (intOf vj).toNat)
                case atStart => exact ⟨0, Nat.zero_le _, rfl, HI2.out⟩
                case round =>
                  obtain ⟨j, hj, rfl, hO, hW, hB⟩ := hrel
                  have HO3 : Hid (Own w wr w.heap.size ns2 d) := Lib.hid hO
                  have HW3 := Lib.hid hW
                  have HB3 := Lib.hid hB
                  have hz3 := hB.size
                  clear hO hW hB HI2
                  by_cases hltj : j < d.wait.length
                  · obtain ⟨y, hy⟩ : ∃ y, d.wait[j]? = some y := ⟨_, List.getElem?_eq_getElem hltj⟩
                    have hym : y ∈ d.wait := List.mem_of_getElem? hy
                    obtain ⟨g, cw', hg, hg1, hg2, -, hg3⟩ := RowAt.pos HW3.out (by omega)
                    cases hg
                    obtain ⟨u0, u1, u2, u3, u4⟩ := WsAt.cells HW3.out hy
                    have hyz := HQ2.out.z y hym
                    have hyn : y.send = true → (Cn.offer d y.v).2.2.2 = false := fun hs => HQ2.out.offer_not hym hs y.v
                    have hyt : y.send = false → (Cn.take d).2.2.2.2 = false := fun hs => HQ2.out.take_not hym hs
                    have HYN := Lib.hid hyn
                    have HYT := Lib.hid hyt
                    clear hyn hyt hy hym
                    obtain ⟨yt, ys, ⟨yk, yn, yv⟩⟩ := y
                    have ij0 : (0 : Int) ≤ (j : Int) := by omega
                    have ij1 : (j : Int) < (d.wait.length : Int) := by omega
                    have CC := Lib.hid (copy_any w.heap.size ns2 d (wr.alloc (.cells #[.int .i64 yt, .bool ys, .int .i64 yk, .int .i64 yn, .string yv] 59)) (HO3.out.rep.alloc _))
                    have HBX := Lib.hid (Blk.new wr #[.int .i64 yt, .bool ys, .int .i64 yk, .int .i64 yn, .string yv] 59)
                    go_wp2_with fail
                    refine CC.out.mono ?_
                    rintro e w4 ⟨dd, ms, rfl, hRd, hge, hb4⟩
                    have bX := HBX.out.below hb4 (by simp)
                    have x1 : w4.cell? ⟨wr.heap.size, 1, none⟩ = some (.bool ys) := bX.cell 1 (by simp)
                    have x2 : w4.cell? ⟨wr.heap.size, 2, none⟩ = some (.int .i64 yk) := bX.cell 2 (by simp)
                    have x3 : w4.cell? ⟨wr.heap.size, 3, none⟩ = some (.int .i64 yn) := bX.cell 3 (by simp)
                    have x4 : w4.cell? ⟨wr.heap.size, 4, none⟩ = some (.string yv) := bX.cell 4 (by simp)
                    have hx4 := bX.lt
                    have HRd := Lib.hid hRd
                    have hb4' : Below wr.heap.size wr w4 := (one _ _).trans (hb4.mono (by simp))
                    have HB4 := Lib.hid hb4'
                    have HE4 := Lib.hid (HO3.out.env.below hb4')
                    have HGe : Hid (∀ x ∈ dd :: ms, wr.heap.size ≤ x) := Lib.hid fun x hx => by have := hge x hx; simp at this; omega
                    have hzr : 0 < wr.heap.size := by omega
                    have hz4 := hb4'.size
                    clear hRd hge hb4 hb4' bX CC HBX
                    cases ys with
                    | true =>
                      have hdn : (Cn.offer d ⟨yk, yn, yv⟩).2.2.2 = false := HYN.out rfl
                      cases hyv : validB yk yn yv with
                      | false =>
                        have OO := Lib.hid (offer_bad dd yk yn yv w4 hyv hyz)
                        clear hyv hdn
                        go_wp2_with fail
                        refine OO.out.mono ?_
                        rintro e w5 ⟨rfl, hb5⟩
                        have HN : Hid (WakRel w ns2 d (.slice (some ⟨g, 0, none⟩) d.wait.length cw) w5) := Lib.hid ⟨HO3.out.below (HB4.out.trans (hb5.mono hz4)), HW3.out.below (HB4.out.trans (hb5.mono hz4)), HB3.out.trans ((HB4.out.trans (hb5.mono hz4)).mono hz3)⟩
                        clear hb5
                        go_wp2
                        go_roundw
                        case rel => exact ⟨j + 1, by omega, by go_num, HN.out⟩
                        case measure => simp [intOf]; omega
                      | true =>
                        have OO := Lib.hid (offer_any dd ms d yk yn yv w4 HRd.out HE4.out hyv hyz (by omega))
                        unfold offerPost at OO
                        rw [hdn] at OO
                        generalize (Cn.offer d ⟨yk, yn, yv⟩).2.2.1 = fl at OO
                        clear hyv hdn
                        go_wp2_with fail
                        refine OO.out.mono ?_
                        rintro e w5 ⟨ms', dv, -, rfl, -, -, hF5⟩
                        have hb5 : Below wr.heap.size w4 w5 := hF5.below HGe.out hz4
                        have HN : Hid (WakRel w ns2 d (.slice (some ⟨g, 0, none⟩) d.wait.length cw) w5) := Lib.hid ⟨HO3.out.below (HB4.out.trans hb5), HW3.out.below (HB4.out.trans hb5), HB3.out.trans ((HB4.out.trans hb5).mono hz3)⟩
                        clear hb5 hF5
                        go_wp2
                        go_roundw
                        case rel => exact ⟨j + 1, by omega, by go_num, HN.out⟩
                        case measure => simp [intOf]; omega
                    | false =>
                      have hdn : (Cn.take d).2.2.2.2 = false := HYT.out rfl
                      have OO := Lib.hid (take_any dd ms d w4 HRd.out HE4.out (fun x hx => by have := HGe.out x hx; omega))
                      unfold takeFPost at OO
                      rw [hdn] at OO
                      generalize (Cn.take d).2.2.2.1 = fl at OO
                      clear hdn
                      go_wp2_with fail
                      refine OO.out.mono ?_
                      rintro e w5 ⟨ms', dv, -, rfl, -, -, hF5⟩
                      have hb5 : Below wr.heap.size w4 w5 := hF5.below HGe.out hz4
                      have HN : Hid (WakRel w ns2 d (.slice (some ⟨g, 0, none⟩) d.wait.length cw) w5) := Lib.hid ⟨HO3.out.below (HB4.out.trans hb5), HW3.out.below (HB4.out.trans hb5), HB3.out.trans ((HB4.out.trans hb5).mono hz3)⟩
                      clear hb5 hF5
                      go_wp2
                      go_roundw
                      case rel => exact ⟨j + 1, by omega, by go_num, HN.out⟩
                      case measure => simp [intOf]; omega
                  · obtain rfl : j = d.wait.length := by omega
                    go_wp2
                    go_roundw
                    case rel => exact ⟨i + 1, by omega, by go_num, ns2, d, HO3.out, HB3.out, HQ2.out, hdd⟩
                    case measure => simp [intOf]; omega
              | false =>
                have RR := Lib.hid (close_any w.heap.size ns c (wr.alloc (.cells #[.int .i64 4, .int .i64 t, .bool sd, .int .i64 vk, .int .i64 vn, .string vs] 39)) (HO.out.rep.alloc _) (HO.out.env.below (one _ _)) hc (by omega))
                unfold closePost at RR
                have KK : Hid (Cn.Keeps c { c with closed := true, wait := [] }) := Lib.hid ⟨rfl, rfl, fun hw => by simp, by simp⟩
                have hQ2 : Cn.Q { c with closed := true, wait := [] } := Cn.Q.nil rfl
                generalize ({ c with closed := true, wait := [] } : Cn.St) = d at RR KK hQ2
                have HQ2 := Lib.hid hQ2
                have hdd : d.dropped ≤ i + 1 := by have := KK.out.dr; omega
                clear hQ2 hc
                go_wp2_with fail
                refine RR.out.mono ?_
                rintro e w2 ⟨dv, rfl, -, hR, hF⟩
                obtain ⟨ns2, hO2, hB2, -, -⟩ := HO.out.next KK.out (by omega) (stepPost.box (ns := ns) ⟨[], fun x hx => by simp at hx, hR, hF.widen (by simp)⟩) hzB
                have HO2 := Lib.hid hO2
                have HB2 := Lib.hid (HB.out.trans (hB2.mono (Nat.le_refl _)))
                clear hR hF hO2 hB2 KK RR
                have hw2 := HO2.out.wl
                have ST : Hid (∀ W, Below w2.heap.size w2 W → Calls Tryd.prog 14 #[.pointer (some ⟨w.heap.size, 0, none⟩)] W (statePost W d)) := Lib.hid fun W hW => state_any w.heap.size ns2 d W (HO2.out.below hW).rep (by omega)
                have hzw := HB2.out.size
                go_wp2_with fail
                refine (ST.out _ (Below.refl _ _)).mono ?_
                rintro e w3 ⟨bv, wv, he3, hbv, hwv, hb3⟩
                obtain ⟨pb, cb, rfl, -⟩ := hbv.form2
                obtain ⟨pw, cw, rfl, -⟩ := hwv.form2
                unfold stateV at he3
                obtain rfl := he3
                have hb4 := Below.trans (Below.refl _ _) (hb3.mono (by first | exact Nat.le_refl _ | (simp; done) | (simp; omega)))
                have HI2 : Hid (WakRel w ns2 d (.slice pw d.wait.length cw) w3) := Lib.hid ⟨HO2.out.below hb4, hwv.weaken (Nat.zero_le _), HB2.out.trans (hb4.mono hzw)⟩
                clear hbv hwv hb3 hb4 ST HO2 HB2
                go_wp2_with fail
                rw [field_wait]
                go_wp2_with fail
                go_loopw [97] (fun vj wt => ∃ j : Nat, j ≤ d.wait.length ∧ vj = .int .i64 j ∧ WakRel w ns2 d (.slice pw d.wait.length cw) wt) (fun vj _ => d.wait.length - (intOf vj).toNat)
                case atStart => exact ⟨0, Nat.zero_le _, rfl, HI2.out⟩
                case round =>
                  obtain ⟨j, hj, rfl, hO, hW, hB⟩ := hrel
                  have HO3 : Hid (Own w wr w.heap.size ns2 d) := Lib.hid hO
                  have HW3 := Lib.hid hW
                  have HB3 := Lib.hid hB
                  have hz3 := hB.size
                  clear hO hW hB HI2
                  by_cases hltj : j < d.wait.length
                  · obtain ⟨y, hy⟩ : ∃ y, d.wait[j]? = some y := ⟨_, List.getElem?_eq_getElem hltj⟩
                    have hym : y ∈ d.wait := List.mem_of_getElem? hy
                    obtain ⟨g, cw', hg, hg1, hg2, -, hg3⟩ := RowAt.pos HW3.out (by omega)
                    cases hg
                    obtain ⟨u0, u1, u2, u3, u4⟩ := WsAt.cells HW3.out hy
                    have hyz := HQ2.out.z y hym
                    have hyn : y.send = true → (Cn.offer d y.v).2.2.2 = false := fun hs => HQ2.out.offer_not hym hs y.v
                    have hyt : y.send = false → (Cn.take d).2.2.2.2 = false := fun hs => HQ2.out.take_not hym hs
                    have HYN := Lib.hid hyn
                    have HYT := Lib.hid hyt
                    clear hyn hyt hy hym
                    obtain ⟨yt, ys, ⟨yk, yn, yv⟩⟩ := y
                    have ij0 : (0 : Int) ≤ (j : Int) := by omega
                    have ij1 : (j : Int) < (d.wait.length : Int) := by omega
                    have CC := Lib.hid (copy_any w.heap.size ns2 d (wr.alloc (.cells #[.int .i64 yt, .bool ys, .int .i64 yk, .int .i64 yn, .string yv] 59)) (HO3.out.rep.alloc _))
                    have HBX := Lib.hid (Blk.new wr #[.int .i64 yt, .bool ys, .int .i64 yk, .int .i64 yn, .string yv] 59)
                    go_wp2_with fail
                    refine CC.out.mono ?_
                    rintro e w4 ⟨dd, ms, rfl, hRd, hge, hb4⟩
                    have bX := HBX.out.below hb4 (by simp)
                    have x1 : w4.cell? ⟨wr.heap.size, 1, none⟩ = some (.bool ys) := bX.cell 1 (by simp)
                    have x2 : w4.cell? ⟨wr.heap.size, 2, none⟩ = some (.int .i64 yk) := bX.cell 2 (by simp)
                    have x3 : w4.cell? ⟨wr.heap.size, 3, none⟩ = some (.int .i64 yn) := bX.cell 3 (by simp)
                    have x4 : w4.cell? ⟨wr.heap.size, 4, none⟩ = some (.string yv) := bX.cell 4 (by simp)
                    have hx4 := bX.lt
                    have HRd := Lib.hid hRd
                    have hb4' : Below wr.heap.size wr w4 := (one _ _).trans (hb4.mono (by simp))
                    have HB4 := Lib.hid hb4'
                    have HE4 := Lib.hid (HO3.out.env.below hb4')
                    have HGe : Hid (∀ x ∈ dd :: ms, wr.heap.size ≤ x) := Lib.hid fun x hx => by have := hge x hx; simp at this; omega
                    have hzr : 0 < wr.heap.size := by omega
                    have hz4 := hb4'.size
                    clear hRd hge hb4 hb4' bX CC HBX
                    cases ys with
                    | true =>
                      have hdn : (Cn.offer d ⟨yk, yn, yv⟩).2.2.2 = false := HYN.out rfl
                      cases hyv : validB yk yn yv with
                      | false =>
                        have OO := Lib.hid (offer_bad dd yk yn yv w4 hyv hyz)
                        clear hyv hdn
                        go_wp2_with fail
                        refine OO.out.mono ?_
                        rintro e w5 ⟨rfl, hb5⟩
                        have HN : Hid (WakRel w ns2 d (.slice (some ⟨g, 0, none⟩) d.wait.length cw) w5) := Lib.hid ⟨HO3.out.below (HB4.out.trans (hb5.mono hz4)), HW3.out.below (HB4.out.trans (hb5.mono hz4)), HB3.out.trans ((HB4.out.trans (hb5.mono hz4)).mono hz3)⟩
                        clear hb5
                        go_wp2
                        go_roundw
                        case rel => exact ⟨j + 1, by omega, by go_num, HN.out⟩
                        case measure => simp [intOf]; omega
                      | true =>
                        have OO := Lib.hid (offer_any dd ms d yk yn yv w4 HRd.out HE4.out hyv hyz (by omega))
                        unfold offerPost at OO
                        rw [hdn] at OO
                        generalize (Cn.offer d ⟨yk, yn, yv⟩).2.2.1 = fl at OO
                        clear hyv hdn
                        go_wp2_with fail
                        refine OO.out.mono ?_
                        rintro e w5 ⟨ms', dv, -, rfl, -, -, hF5⟩
                        have hb5 : Below wr.heap.size w4 w5 := hF5.below HGe.out hz4
                        have HN : Hid (WakRel w ns2 d (.slice (some ⟨g, 0, none⟩) d.wait.length cw) w5) := Lib.hid ⟨HO3.out.below (HB4.out.trans hb5), HW3.out.below (HB4.out.trans hb5), HB3.out.trans ((HB4.out.trans hb5).mono hz3)⟩
                        clear hb5 hF5
                        go_wp2
                        go_roundw
                        case rel => exact ⟨j + 1, by omega, by go_num, HN.out⟩
                        case measure => simp [intOf]; omega
                    | false =>
                      have hdn : (Cn.take d).2.2.2.2 = false := HYT.out rfl
                      have OO := Lib.hid (take_any dd ms d w4 HRd.out HE4.out (fun x hx => by have := HGe.out x hx; omega))
                      unfold takeFPost at OO
                      rw [hdn] at OO
                      generalize (Cn.take d).2.2.2.1 = fl at OO
                      clear hdn
                      go_wp2_with fail
                      refine OO.out.mono ?_
                      rintro e w5 ⟨ms', dv, -, rfl, -, -, hF5⟩
                      have hb5 : Below wr.heap.size w4 w5 := hF5.below HGe.out hz4
                      have HN : Hid (WakRel w ns2 d (.slice (some ⟨g, 0, none⟩) d.wait.length cw) w5) := Lib.hid ⟨HO3.out.below (HB4.out.trans hb5), HW3.out.below (HB4.out.trans hb5), HB3.out.trans ((HB4.out.trans hb5).mono hz3)⟩
                      clear hb5 hF5
                      go_wp2
                      go_roundw
                      case rel => exact ⟨j + 1, by omega, by go_num, HN.out⟩
                      case measure => simp [intOf]; omega
                  · obtain rfl : j = d.wait.length := by omega
                    go_wp2
                    go_roundw
                    case rel => exact ⟨i + 1, by omega, by go_num, ns2, d, HO3.out, HB3.out, HQ2.out, hdd⟩
                    case measure => simp [intOf]; omega
            · have j4 : (kd == 4) = false := by simpa using k4
              have j0 : (kd == 0) = false := by simpa using k0
              have j1 : (kd == 1) = false := by simpa using k1
              have j3 : (kd == 3) = false := by simpa using k3
              have j4 : (kd == 4) = false := by simpa using k4
              clear k0 k1 k3 k4
              obtain ⟨w2, hw2, HO2, HB2⟩ : ∃ w2, w2 = wr ∧ Hid (Own w w2 w.heap.size ns c) ∧ Hid (Below w.heap.size w w2) := ⟨wr, rfl, HO, HB⟩
              obtain ⟨d, ns2, HO2, HQ2, hdd⟩ : ∃ d ns2, Hid (Own w w2 w.heap.size ns2 d) ∧ Hid (Cn.Q d) ∧ d.dropped ≤ i + 1 := ⟨c, ns, HO2, HQ, by omega⟩
              subst hw2
              have hw2 := HO2.out.wl
              have ST : Hid (∀ W, Below w2.heap.size w2 W → Calls Tryd.prog 14 #[.pointer (some ⟨w.heap.size, 0, none⟩)] W (statePost W d)) := Lib.hid fun W hW => state_any w.heap.size ns2 d W (HO2.out.below hW).rep (by omega)
              have hzw := HB2.out.size
              go_wp2_with fail
              refine (ST.out _ (one _ _)).mono ?_
              rintro e w3 ⟨bv, wv, he3, hbv, hwv, hb3⟩
              obtain ⟨pb, cb, rfl, -⟩ := hbv.form2
              obtain ⟨pw, cw, rfl, -⟩ := hwv.form2
              unfold stateV at he3
              obtain rfl := he3
              have hb4 := Below.trans (one _ _) (hb3.mono (by first | exact Nat.le_refl _ | (simp; done) | (simp; omega)))
              have HI2 : Hid (WakRel w ns2 d (.slice pw d.wait.length cw) w3) := Lib.hid ⟨HO2.out.below hb4, hwv.weaken (Nat.zero_le _), HB2.out.trans (hb4.mono hzw)⟩
              clear hbv hwv hb3 hb4 ST HO2 HB2
              go_wp2_with fail
              rw [field_wait]
              go_wp2_with fail
              go_loopw [97] (fun vj wt => ∃ j : Nat, j ≤ d.wait.length ∧ vj = .int .i64 j ∧ WakRel w ns2 d (.slice pw d.wait.length cw) wt) (fun vj _ => d.wait.length - (intOf vj).toNat)
              case atStart => exact ⟨0, Nat.zero_le _, rfl, HI2.out⟩
              case round =>
                obtain ⟨j, hj, rfl, hO, hW, hB⟩ := hrel
                have HO3 : Hid (Own w wr w.heap.size ns2 d) := Lib.hid hO
                have HW3 := Lib.hid hW
                have HB3 := Lib.hid hB
                have hz3 := hB.size
                clear hO hW hB HI2
                by_cases hltj : j < d.wait.length
                · obtain ⟨y, hy⟩ : ∃ y, d.wait[j]? = some y := ⟨_, List.getElem?_eq_getElem hltj⟩
                  have hym : y ∈ d.wait := List.mem_of_getElem? hy
                  obtain ⟨g, cw', hg, hg1, hg2, -, hg3⟩ := RowAt.pos HW3.out (by omega)
                  cases hg
                  obtain ⟨u0, u1, u2, u3, u4⟩ := WsAt.cells HW3.out hy
                  have hyz := HQ2.out.z y hym
                  have hyn : y.send = true → (Cn.offer d y.v).2.2.2 = false := fun hs => HQ2.out.offer_not hym hs y.v
                  have hyt : y.send = false → (Cn.take d).2.2.2.2 = false := fun hs => HQ2.out.take_not hym hs
                  have HYN := Lib.hid hyn
                  have HYT := Lib.hid hyt
                  clear hyn hyt hy hym
                  obtain ⟨yt, ys, ⟨yk, yn, yv⟩⟩ := y
                  have ij0 : (0 : Int) ≤ (j : Int) := by omega
                  have ij1 : (j : Int) < (d.wait.length : Int) := by omega
                  have CC := Lib.hid (copy_any w.heap.size ns2 d (wr.alloc (.cells #[.int .i64 yt, .bool ys, .int .i64 yk, .int .i64 yn, .string yv] 59)) (HO3.out.rep.alloc _))
                  have HBX := Lib.hid (Blk.new wr #[.int .i64 yt, .bool ys, .int .i64 yk, .int .i64 yn, .string yv] 59)
                  go_wp2_with fail
                  refine CC.out.mono ?_
                  rintro e w4 ⟨dd, ms, rfl, hRd, hge, hb4⟩
                  have bX := HBX.out.below hb4 (by simp)
                  have x1 : w4.cell? ⟨wr.heap.size, 1, none⟩ = some (.bool ys) := bX.cell 1 (by simp)
                  have x2 : w4.cell? ⟨wr.heap.size, 2, none⟩ = some (.int .i64 yk) := bX.cell 2 (by simp)
                  have x3 : w4.cell? ⟨wr.heap.size, 3, none⟩ = some (.int .i64 yn) := bX.cell 3 (by simp)
                  have x4 : w4.cell? ⟨wr.heap.size, 4, none⟩ = some (.string yv) := bX.cell 4 (by simp)
                  have hx4 := bX.lt
                  have HRd := Lib.hid hRd
                  have hb4' : Below wr.heap.size wr w4 := (one _ _).trans (hb4.mono (by simp))
                  have HB4 := Lib.hid hb4'
                  have HE4 := Lib.hid (HO3.out.env.below hb4')
                  have HGe : Hid (∀ x ∈ dd :: ms, wr.heap.size ≤ x) := Lib.hid fun x hx => by have := hge x hx; simp at this; omega
                  have hzr : 0 < wr.heap.size := by omega
                  have hz4 := hb4'.size
                  clear hRd hge hb4 hb4' bX CC HBX
                  cases ys with
                  | true =>
                    have hdn : (Cn.offer d ⟨yk, yn, yv⟩).2.2.2 = false := HYN.out rfl
                    cases hyv : validB yk yn yv with
                    | false =>
                      have OO := Lib.hid (offer_bad dd yk yn yv w4 hyv hyz)
                      clear hyv hdn
                      go_wp2_with fail
                      refine OO.out.mono ?_
                      rintro e w5 ⟨rfl, hb5⟩
                      have HN : Hid (WakRel w ns2 d (.slice (some ⟨g, 0, none⟩) d.wait.length cw) w5) := Lib.hid ⟨HO3.out.below (HB4.out.trans (hb5.mono hz4)), HW3.out.below (HB4.out.trans (hb5.mono hz4)), HB3.out.trans ((HB4.out.trans (hb5.mono hz4)).mono hz3)⟩
                      clear hb5
                      go_wp2
                      go_roundw
                      case rel => exact ⟨j + 1, by omega, by go_num, HN.out⟩
                      case measure => simp [intOf]; omega
                    | true =>
                      have OO := Lib.hid (offer_any dd ms d yk yn yv w4 HRd.out HE4.out hyv hyz (by omega))
                      unfold offerPost at OO
                      rw [hdn] at OO
                      generalize (Cn.offer d ⟨yk, yn, yv⟩).2.2.1 = fl at OO
                      clear hyv hdn
                      go_wp2_with fail
                      refine OO.out.mono ?_
                      rintro e w5 ⟨ms', dv, -, rfl, -, -, hF5⟩
                      have hb5 : Below wr.heap.size w4 w5 := hF5.below HGe.out hz4
                      have HN : Hid (WakRel w ns2 d (.slice (some ⟨g, 0, none⟩) d.wait.length cw) w5) := Lib.hid ⟨HO3.out.below (HB4.out.trans hb5), HW3.out.below (HB4.out.trans hb5), HB3.out.trans ((HB4.out.trans hb5).mono hz3)⟩
                      clear hb5 hF5
                      go_wp2
                      go_roundw
                      case rel => exact ⟨j + 1, by omega, by go_num, HN.out⟩
                      case measure => simp [intOf]; omega
                  | false =>
                    have hdn : (Cn.take d).2.2.2.2 = false := HYT.out rfl
                    have OO := Lib.hid (take_any dd ms d w4 HRd.out HE4.out (fun x hx => by have := HGe.out x hx; omega))
                    unfold takeFPost at OO
                    rw [hdn] at OO
                    generalize (Cn.take d).2.2.2.1 = fl at OO
                    clear hdn
                    go_wp2_with fail
                    refine OO.out.mono ?_
                    rintro e w5 ⟨ms', dv, -, rfl, -, -, hF5⟩
                    have hb5 : Below wr.heap.size w4 w5 := hF5.below HGe.out hz4
                    have HN : Hid (WakRel w ns2 d (.slice (some ⟨g, 0, none⟩) d.wait.length cw) w5) := Lib.hid ⟨HO3.out.below (HB4.out.trans hb5), HW3.out.below (HB4.out.trans hb5), HB3.out.trans ((HB4.out.trans hb5).mono hz3)⟩
                    clear hb5 hF5
                    go_wp2
                    go_roundw
                    case rel => exact ⟨j + 1, by omega, by go_num, HN.out⟩
                    case measure => simp [intOf]; omega
                · obtain rfl : j = d.wait.length := by omega
                  go_wp2
                  go_roundw
                  case rel => exact ⟨i + 1, by omega, by go_num, ns2, d, HO3.out, HB3.out, HQ2.out, hdd⟩
                  case measure => simp [intOf]; omega
    · obtain rfl : m = i := by omega
      go_wp2_with fail
      refine (awake_any _ HO.out.env).mono ?_
      rintro e w2 ⟨rfl, hb2⟩
      have HB2 := Lib.hid (HB.out.trans (hb2.mono hzB))
      clear hb2
      go_wp2
      go_ret
      exact ⟨rfl, HB2.out⟩
end Go.Proofs.YtlibkhndekgnfaaDoor
