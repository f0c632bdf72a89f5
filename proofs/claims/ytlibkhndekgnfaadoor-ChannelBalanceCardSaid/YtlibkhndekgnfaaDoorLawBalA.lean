/- ChannelBalance returns true: the rounds. -/
import Derived.Test.YtlibkhndekgnfaaDoorBalance
namespace Go.Proofs.YtlibkhndekgnfaaDoor
open Go.RowKit

set_option maxRecDepth 100000 in
set_option maxHeartbeats 8000000 in
theorem law_balance_A (k : Nat) (p : Int) (q : Option Addr) (cp : Nat) (L : List Op) (w : World) (henv : Env w) (hk : k ≤ 16) (hp0 : 0 ≤ p) (hp2 : p ≤ 2) (hL : OpsIn w q cp L) (h80 : 80 < L.length) :
    Calls Tryd.prog 8 #[.int .i64 k, .int .i64 p, .slice q L.length cp] w fun e w' => e = .returned (.bool true) ∧ Below w.heap.size w w' := by
  have NN := Lib.hid (new_ok k p w hk hp0 hp2)
  have HE := Lib.hid henv
  have HL := Lib.hid hL
  have hpos := henv.pos
  obtain ⟨m, hm⟩ : ∃ m : Nat, m = min L.length 80 := ⟨_, rfl⟩
  have hmi : min (L.length : Int) 80 = (m : Int) := by omega
  have hm80 : m ≤ 80 := by omega
  have hmL : m ≤ L.length := by omega
  have hLc := hL.le
  have hcm := hL.cap
  unfold maxLen at hcm
  clear henv hL hm
  go_enter Tryd.func8, Tryd.ntmps8
  go_wp2_with fail
  refine NN.out.mono ?_
  rintro e w1 ⟨rfl, hR1, hB1⟩
  have HI : Hid (BalRel w k p 0 0 0 w1) := Lib.hid ⟨[], newSt k p, ⟨hR1, by simp, HE.out.below hB1, hpos, by simp [newSt], by simp [newSt]⟩, hB1, rfl, rfl, by simp [newSt], by omega⟩
  clear hR1 hB1 NN
  have hmA : m ≤ 80 := by omega
  have hmB : 80 ≤ m := by omega
  clear hmi
  go_wp2_with fail
  go_loopw [9, 10, 40] (fun vi vo vk wr => ∃ i iN oN : Nat, i ≤ m ∧ vi = .int .i64 iN ∧ vo = .int .i64 oN ∧ vk = .int .i64 i ∧ BalRel w k p i iN oN wr) (fun _ _ vk _ => m - (intOf vk).toNat)
  case atStart => exact ⟨0, 0, 0, Nat.zero_le _, rfl, rfl, rfl, HI.out⟩
  case round =>
    obtain ⟨i, iN, oN, hi, rfl, rfl, rfl, ns, c, hO, hB, hcap, hpol, hbal, hiN⟩ := hrel
    have hO' : Own w wr w.heap.size ns c := hO
    have HO := Lib.hid hO'
    have HB := Lib.hid hB
    have HC := Lib.hid (And.intro hcap hpol)
    have hwl := hO'.wl
    have hbl := hO'.rep.cells.2.2.2.2.2.2.2.1
    have hzB := hB.size
    have HBal := Lib.hid hbal
    have hi80 : iN ≤ 80 := by omega
    have ho80 : oN ≤ 80 := by omega
    have hdr : c.dropped ≤ 80 := by omega
    clear hO hO' hB hcap hpol hbal
    by_cases hlt : i < m
    · obtain ⟨x, hx⟩ : ∃ x, L[i]? = some x := ⟨_, List.getElem?_eq_getElem (by omega)⟩
      obtain ⟨ab, ao, hq, hab, q0, q1, q2, q3, q4, q5, hsz⟩ := HL.out.cells hx HB.out
      subst hq
      have habr : ab < wr.heap.size := by omega
      have i0 : (0 : Int) ≤ (i : Int) := by omega
      obtain ⟨kd, t, sd, vk, vn, vs⟩ := x
      have HBX := Lib.hid (Blk.new wr #[.int .i64 kd, .int .i64 t, .bool sd, .int .i64 vk, .int .i64 vn, .string vs] 39)
      by_cases k0 : kd = 0
      · subst k0
        cases hv : validB vk vn vs with
        | false =>
          have RR := Lib.hid (offer_bad w.heap.size vk vn vs (wr.alloc (.cells #[.int .i64 0, .int .i64 t, .bool sd, .int .i64 vk, .int .i64 vn, .string vs] 39)) hv hsz)
          clear hx hv
          go_wp2_with fail
          refine RR.out.mono ?_
          rintro e w2 ⟨rfl, hb2⟩
          have hbb := (one wr (.cells #[.int .i64 0, .int .i64 t, .bool sd, .int .i64 vk, .int .i64 vn, .string vs] 39)).trans (hb2.mono (by simp))
          have HO2 := Lib.hid (HO.out.below hbb)
          have HB2 := Lib.hid (HB.out.trans (hbb.mono hzB))
          obtain ⟨d, ns2, HO2, HD⟩ : ∃ d ns2, Hid (Own w w2 w.heap.size ns2 d) ∧ Hid (d.cap = k ∧ d.pol = p ∧ iN = oN + d.dropped + d.buf.length ∧ iN ≤ i + 1) := ⟨c, ns, HO2, Lib.hid ⟨HC.out.1, HC.out.2, HBal.out, by omega⟩⟩
          clear hb2 hbb
          have hw2 := HO2.out.wl
          have ST : Hid (∀ W, Below w2.heap.size w2 W → Calls Tryd.prog 14 #[.pointer (some ⟨w.heap.size, 0, none⟩)] W (statePost W d)) := Lib.hid fun W hW => state_any w.heap.size ns2 d W (HO2.out.below hW).rep (by omega)
          have hlen : (d.buf.length : Int) ≤ (k : Int) := by have h1 := HO2.out.rep.cells.2.2.2.2.2.2.2.1; have h2 := HD.out.1; omega
          have hdl : d.dropped ≤ 200 := by have := HD.out.2.2.1; omega
          have hdb : d.buf.length ≤ 200 := by have := HD.out.2.2.1; omega
          have hn : (((iN : Int) : Int) != (oN : Int) + (d.dropped : Int) + (d.buf.length : Int)) = false := by have := HD.out.2.2.1; simp; omega
          have hzw := HB2.out.size
          go_wp2_with fail
          refine (ST.out _ (one _ _)).mono ?_
          rintro e w3 ⟨bv, wv, he3, hbv, hwv, hb3⟩
          obtain ⟨pb, cb, rfl, -⟩ := hbv.form2
          obtain ⟨pw, cw, rfl, -⟩ := hwv.form2
          rw [HD.out.1, HD.out.2.1] at he3
          obtain rfl := he3
          have hb4 := Below.trans (one _ _) (hb3.mono (by first | exact Nat.le_refl _ | (simp; done) | (simp; omega)))
          have HO3 := Lib.hid (HO2.out.below hb4)
          have HB3 := Lib.hid (HB2.out.trans (hb4.mono hzw))
          clear hbv hwv hb3 hb4 ST
          go_wp2
          go_roundw
          case rel => exact ⟨i + 1, iN, oN, by omega, by go_num, by go_num, by go_num, ns2, d, HO3.out.below (one _ _), HB3.out.alloc HB3.out.size _, HD.out⟩
          case measure => simp [intOf]; omega
        | true =>
          have RR := Lib.hid (offer_any w.heap.size ns c vk vn vs (wr.alloc (.cells #[.int .i64 0, .int .i64 t, .bool sd, .int .i64 vk, .int .i64 vn, .string vs] 39)) (HO.out.rep.alloc _) (HO.out.env.below (one _ _)) hv hsz (by omega))
          have hK := Cn.offer_keeps c ⟨vk, vn, vs⟩
          have hBAL := Cn.offer_bal c ⟨vk, vn, vs⟩ hbl
          have hDL := Cn.offer_deals c ⟨vk, vn, vs⟩
          unfold offerPost at RR
          generalize Cn.offer c ⟨vk, vn, vs⟩ = r at RR hK hBAL hDL
          obtain ⟨d, ds, fl, dn⟩ := r
          have KK := Lib.hid hK
          have BAL := Lib.hid hBAL
          simp only at RR hDL
          clear hx hv hK hBAL
          go_wp2_with fail
          refine RR.out.mono ?_
          rintro e w2 ⟨ns1, dv, hs, he, hd, hR, hF⟩
          obtain ⟨pd, cd, rfl, -⟩ := (show RowAt dealCells 7 57 _ _ dv ds from hd.1).form2
          obtain rfl := he
          obtain ⟨ns2, hO2, hB2, -, -⟩ := HO.out.next KK.out (by omega) (stepPost.box ⟨ns1, fun x hx => .inl (hs x hx), hR, hF⟩) hzB
          have HO2 := Lib.hid hO2
          have HB2 := Lib.hid (HB.out.trans (hB2.mono (Nat.le_refl _)))
          clear hs hd hR hF hO2 hB2
          cases fl <;> cases dn
          · have HD : Hid (d.cap = k ∧ d.pol = p ∧ iN = oN + d.dropped + d.buf.length ∧ iN ≤ i + 1) := Lib.hid ⟨KK.out.cap.trans HC.out.1, KK.out.pol.trans HC.out.2, by have h1 := BAL.out; have h2 := HBal.out; simp at h1; omega, by omega⟩
            clear BAL KK
            have hw2 := HO2.out.wl
            have ST : Hid (∀ W, Below w2.heap.size w2 W → Calls Tryd.prog 14 #[.pointer (some ⟨w.heap.size, 0, none⟩)] W (statePost W d)) := Lib.hid fun W hW => state_any w.heap.size ns2 d W (HO2.out.below hW).rep (by omega)
            have hlen : (d.buf.length : Int) ≤ (k : Int) := by have h1 := HO2.out.rep.cells.2.2.2.2.2.2.2.1; have h2 := HD.out.1; omega
            have hdl : d.dropped ≤ 200 := by have := HD.out.2.2.1; omega
            have hdb : d.buf.length ≤ 200 := by have := HD.out.2.2.1; omega
            have hn : (((iN : Int) : Int) != (oN : Int) + (d.dropped : Int) + (d.buf.length : Int)) = false := by have := HD.out.2.2.1; simp; omega
            have hzw := HB2.out.size
            go_wp2_with fail
            refine (ST.out _ (one _ _)).mono ?_
            rintro e w3 ⟨bv, wv, he3, hbv, hwv, hb3⟩
            obtain ⟨pb, cb, rfl, -⟩ := hbv.form2
            obtain ⟨pw, cw, rfl, -⟩ := hwv.form2
            rw [HD.out.1, HD.out.2.1] at he3
            obtain rfl := he3
            have hb4 := Below.trans (one _ _) (hb3.mono (by first | exact Nat.le_refl _ | (simp; done) | (simp; omega)))
            have HO3 := Lib.hid (HO2.out.below hb4)
            have HB3 := Lib.hid (HB2.out.trans (hb4.mono hzw))
            clear hbv hwv hb3 hb4 ST
            go_wp2
            go_roundw
            case rel => exact ⟨i + 1, iN, oN, by omega, by go_num, by go_num, by go_num, ns2, d, HO3.out.below (one _ _), HB3.out.alloc HB3.out.size _, HD.out⟩
            case measure => simp [intOf]; omega
          · have HD : Hid (d.cap = k ∧ d.pol = p ∧ iN + 1 = oN + ds.length + d.dropped + d.buf.length ∧ iN + 1 ≤ i + 1) := Lib.hid ⟨KK.out.cap.trans HC.out.1, KK.out.pol.trans HC.out.2, by have h1 := BAL.out; have h2 := HBal.out; simp at h1; omega, by omega⟩
            clear BAL KK
            have hw2 := HO2.out.wl
            have ST : Hid (∀ W, Below w2.heap.size w2 W → Calls Tryd.prog 14 #[.pointer (some ⟨w.heap.size, 0, none⟩)] W (statePost W d)) := Lib.hid fun W hW => state_any w.heap.size ns2 d W (HO2.out.below hW).rep (by omega)
            have hlen : (d.buf.length : Int) ≤ (k : Int) := by have h1 := HO2.out.rep.cells.2.2.2.2.2.2.2.1; have h2 := HD.out.1; omega
            have hdl : d.dropped ≤ 200 := by have := HD.out.2.2.1; omega
            have hdb : d.buf.length ≤ 200 := by have := HD.out.2.2.1; omega
            have hn : ((((iN : Int) + 1) : Int) != ((oN : Int) + (ds.length : Int)) + (d.dropped : Int) + (d.buf.length : Int)) = false := by have := HD.out.2.2.1; simp; omega
            have hzw := HB2.out.size
            go_wp2_with fail
            refine (ST.out _ (one _ _)).mono ?_
            rintro e w3 ⟨bv, wv, he3, hbv, hwv, hb3⟩
            obtain ⟨pb, cb, rfl, -⟩ := hbv.form2
            obtain ⟨pw, cw, rfl, -⟩ := hwv.form2
            rw [HD.out.1, HD.out.2.1] at he3
            obtain rfl := he3
            have hb4 := Below.trans (one _ _) (hb3.mono (by first | exact Nat.le_refl _ | (simp; done) | (simp; omega)))
            have HO3 := Lib.hid (HO2.out.below hb4)
            have HB3 := Lib.hid (HB2.out.trans (hb4.mono hzw))
            clear hbv hwv hb3 hb4 ST
            go_wp2
            go_roundw
            case rel => exact ⟨i + 1, iN + 1, oN + ds.length, by omega, by go_num, by go_num, by go_num, ns2, d, HO3.out.below (one _ _), HB3.out.alloc HB3.out.size _, HD.out⟩
            case measure => simp [intOf]; omega
          · have HD : Hid (d.cap = k ∧ d.pol = p ∧ iN = oN + d.dropped + d.buf.length ∧ iN ≤ i + 1) := Lib.hid ⟨KK.out.cap.trans HC.out.1, KK.out.pol.trans HC.out.2, by have h1 := BAL.out; have h2 := HBal.out; simp at h1; omega, by omega⟩
            clear BAL KK
            have hw2 := HO2.out.wl
            have ST : Hid (∀ W, Below w2.heap.size w2 W → Calls Tryd.prog 14 #[.pointer (some ⟨w.heap.size, 0, none⟩)] W (statePost W d)) := Lib.hid fun W hW => state_any w.heap.size ns2 d W (HO2.out.below hW).rep (by omega)
            have hlen : (d.buf.length : Int) ≤ (k : Int) := by have h1 := HO2.out.rep.cells.2.2.2.2.2.2.2.1; have h2 := HD.out.1; omega
            have hdl : d.dropped ≤ 200 := by have := HD.out.2.2.1; omega
            have hdb : d.buf.length ≤ 200 := by have := HD.out.2.2.1; omega
            have hn : (((iN : Int) : Int) != (oN : Int) + (d.dropped : Int) + (d.buf.length : Int)) = false := by have := HD.out.2.2.1; simp; omega
            have hzw := HB2.out.size
            go_wp2_with fail
            refine (ST.out _ (one _ _)).mono ?_
            rintro e w3 ⟨bv, wv, he3, hbv, hwv, hb3⟩
            obtain ⟨pb, cb, rfl, -⟩ := hbv.form2
            obtain ⟨pw, cw, rfl, -⟩ := hwv.form2
            rw [HD.out.1, HD.out.2.1] at he3
            obtain rfl := he3
            have hb4 := Below.trans (one _ _) (hb3.mono (by first | exact Nat.le_refl _ | (simp; done) | (simp; omega)))
            have HO3 := Lib.hid (HO2.out.below hb4)
            have HB3 := Lib.hid (HB2.out.trans (hb4.mono hzw))
            clear hbv hwv hb3 hb4 ST
            go_wp2
            go_roundw
            case rel => exact ⟨i + 1, iN, oN, by omega, by go_num, by go_num, by go_num, ns2, d, HO3.out.below (one _ _), HB3.out.alloc HB3.out.size _, HD.out⟩
            case measure => simp [intOf]; omega
          · have HD : Hid (d.cap = k ∧ d.pol = p ∧ iN = oN + d.dropped + d.buf.length ∧ iN ≤ i + 1) := Lib.hid ⟨KK.out.cap.trans HC.out.1, KK.out.pol.trans HC.out.2, by have h1 := BAL.out; have h2 := HBal.out; simp at h1; omega, by omega⟩
            clear BAL KK
            have hw2 := HO2.out.wl
            have ST : Hid (∀ W, Below w2.heap.size w2 W → Calls Tryd.prog 14 #[.pointer (some ⟨w.heap.size, 0, none⟩)] W (statePost W d)) := Lib.hid fun W hW => state_any w.heap.size ns2 d W (HO2.out.below hW).rep (by omega)
            have hlen : (d.buf.length : Int) ≤ (k : Int) := by have h1 := HO2.out.rep.cells.2.2.2.2.2.2.2.1; have h2 := HD.out.1; omega
            have hdl : d.dropped ≤ 200 := by have := HD.out.2.2.1; omega
            have hdb : d.buf.length ≤ 200 := by have := HD.out.2.2.1; omega
            have hn : (((iN : Int) : Int) != (oN : Int) + (d.dropped : Int) + (d.buf.length : Int)) = false := by have := HD.out.2.2.1; simp; omega
            have hzw := HB2.out.size
            go_wp2_with fail
            refine (ST.out _ (one _ _)).mono ?_
            rintro e w3 ⟨bv, wv, he3, hbv, hwv, hb3⟩
            obtain ⟨pb, cb, rfl, -⟩ := hbv.form2
            obtain ⟨pw, cw, rfl, -⟩ := hwv.form2
            rw [HD.out.1, HD.out.2.1] at he3
            obtain rfl := he3
            have hb4 := Below.trans (one _ _) (hb3.mono (by first | exact Nat.le_refl _ | (simp; done) | (simp; omega)))
            have HO3 := Lib.hid (HO2.out.below hb4)
            have HB3 := Lib.hid (HB2.out.trans (hb4.mono hzw))
            clear hbv hwv hb3 hb4 ST
            go_wp2
            go_roundw
            case rel => exact ⟨i + 1, iN, oN, by omega, by go_num, by go_num, by go_num, ns2, d, HO3.out.below (one _ _), HB3.out.alloc HB3.out.size _, HD.out⟩
            case measure => simp [intOf]; omega
      · have j0 : (kd == 0) = false := by simpa using k0
        by_cases k1 : kd = 1
        · subst k1
          have RR := Lib.hid (take_any w.heap.size ns c (wr.alloc (.cells #[.int .i64 1, .int .i64 t, .bool sd, .int .i64 vk, .int .i64 vn, .string vs] 39)) (HO.out.rep.alloc _) (HO.out.env.below (one _ _)) HO.out.positive)
          have hK := Cn.take_keeps c
          have hBAL := Cn.take_bal c
          have hDL := Cn.take_deals c
          unfold takeFPost at RR
          generalize Cn.take c = r at RR hK hBAL hDL
          obtain ⟨d, ⟨rk, rn, rs⟩, ds, fl, dn⟩ := r
          have KK := Lib.hid hK
          have BAL := Lib.hid hBAL
          simp only at RR hDL
          clear hx hK hBAL k0
          go_wp2_with fail
          refine RR.out.mono ?_
          rintro e w2 ⟨ns1, dv, hs, he, hd, hR, hF⟩
          obtain ⟨pd, cd, rfl, -⟩ := (show RowAt dealCells 7 57 _ _ dv ds from hd.1).form2
          obtain rfl := he
          obtain ⟨ns2, hO2, hB2, -, -⟩ := HO.out.next KK.out (by omega) (stepPost.box ⟨ns1, fun x hx => .inl (hs x hx), hR, hF⟩) hzB
          have HO2 := Lib.hid hO2
          have HB2 := Lib.hid (HB.out.trans (hB2.mono (Nat.le_refl _)))
          clear hs hd hR hF hO2 hB2
          cases fl <;> cases dn
          · have HD : Hid (d.cap = k ∧ d.pol = p ∧ iN = oN + d.dropped + d.buf.length ∧ iN ≤ i + 1) := Lib.hid ⟨KK.out.cap.trans HC.out.1, KK.out.pol.trans HC.out.2, by have h1 := BAL.out; have h2 := HBal.out; simp at h1; omega, by omega⟩
            clear BAL KK
            have hw2 := HO2.out.wl
            have ST : Hid (∀ W, Below w2.heap.size w2 W → Calls Tryd.prog 14 #[.pointer (some ⟨w.heap.size, 0, none⟩)] W (statePost W d)) := Lib.hid fun W hW => state_any w.heap.size ns2 d W (HO2.out.below hW).rep (by omega)
            have hlen : (d.buf.length : Int) ≤ (k : Int) := by have h1 := HO2.out.rep.cells.2.2.2.2.2.2.2.1; have h2 := HD.out.1; omega
            have hdl : d.dropped ≤ 200 := by have := HD.out.2.2.1; omega
            have hdb : d.buf.length ≤ 200 := by have := HD.out.2.2.1; omega
            have hn : (((iN : Int) : Int) != (oN : Int) + (d.dropped : Int) + (d.buf.length : Int)) = false := by have := HD.out.2.2.1; simp; omega
            have hzw := HB2.out.size
            go_wp2_with fail
            refine (ST.out _ ((one _ _).alloc (by simp) _)).mono ?_
            rintro e w3 ⟨bv, wv, he3, hbv, hwv, hb3⟩
            obtain ⟨pb, cb, rfl, -⟩ := hbv.form2
            obtain ⟨pw, cw, rfl, -⟩ := hwv.form2
            rw [HD.out.1, HD.out.2.1] at he3
            obtain rfl := he3
            have hb4 := Below.trans ((one _ _).alloc (by simp) _) (hb3.mono (by first | exact Nat.le_refl _ | (simp; done) | (simp; omega)))
            have HO3 := Lib.hid (HO2.out.below hb4)
            have HB3 := Lib.hid (HB2.out.trans (hb4.mono hzw))
            clear hbv hwv hb3 hb4 ST
            go_wp2
            go_roundw
            case rel => exact ⟨i + 1, iN, oN, by omega, by go_num, by go_num, by go_num, ns2, d, HO3.out.below (one _ _), HB3.out.alloc HB3.out.size _, HD.out⟩
            case measure => simp [intOf]; omega
          · have HD : Hid (d.cap = k ∧ d.pol = p ∧ iN + ds.length = oN + 1 + d.dropped + d.buf.length ∧ iN + ds.length ≤ i + 1) := Lib.hid ⟨KK.out.cap.trans HC.out.1, KK.out.pol.trans HC.out.2, by have h1 := BAL.out; have h2 := HBal.out; simp at h1; omega, by omega⟩
            clear BAL KK
            have hw2 := HO2.out.wl
            have ST : Hid (∀ W, Below w2.heap.size w2 W → Calls Tryd.prog 14 #[.pointer (some ⟨w.heap.size, 0, none⟩)] W (statePost W d)) := Lib.hid fun W hW => state_any w.heap.size ns2 d W (HO2.out.below hW).rep (by omega)
            have hlen : (d.buf.length : Int) ≤ (k : Int) := by have h1 := HO2.out.rep.cells.2.2.2.2.2.2.2.1; have h2 := HD.out.1; omega
            have hdl : d.dropped ≤ 200 := by have := HD.out.2.2.1; omega
            have hdb : d.buf.length ≤ 200 := by have := HD.out.2.2.1; omega
            have hn : ((((iN : Int) + (ds.length : Int)) : Int) != ((oN : Int) + 1) + (d.dropped : Int) + (d.buf.length : Int)) = false := by have := HD.out.2.2.1; simp; omega
            have hzw := HB2.out.size
            go_wp2_with fail
            refine (ST.out _ ((one _ _).alloc (by simp) _)).mono ?_
            rintro e w3 ⟨bv, wv, he3, hbv, hwv, hb3⟩
            obtain ⟨pb, cb, rfl, -⟩ := hbv.form2
            obtain ⟨pw, cw, rfl, -⟩ := hwv.form2
            rw [HD.out.1, HD.out.2.1] at he3
            obtain rfl := he3
            have hb4 := Below.trans ((one _ _).alloc (by simp) _) (hb3.mono (by first | exact Nat.le_refl _ | (simp; done) | (simp; omega)))
            have HO3 := Lib.hid (HO2.out.below hb4)
            have HB3 := Lib.hid (HB2.out.trans (hb4.mono hzw))
            clear hbv hwv hb3 hb4 ST
            go_wp2
            go_roundw
            case rel => exact ⟨i + 1, iN + ds.length, oN + 1, by omega, by go_num, by go_num, by go_num, ns2, d, HO3.out.below (one _ _), HB3.out.alloc HB3.out.size _, HD.out⟩
            case measure => simp [intOf]; omega
          · have HD : Hid (d.cap = k ∧ d.pol = p ∧ iN = oN + d.dropped + d.buf.length ∧ iN ≤ i + 1) := Lib.hid ⟨KK.out.cap.trans HC.out.1, KK.out.pol.trans HC.out.2, by have h1 := BAL.out; have h2 := HBal.out; simp at h1; omega, by omega⟩
            clear BAL KK
            have hw2 := HO2.out.wl
            have ST : Hid (∀ W, Below w2.heap.size w2 W → Calls Tryd.prog 14 #[.pointer (some ⟨w.heap.size, 0, none⟩)] W (statePost W d)) := Lib.hid fun W hW => state_any w.heap.size ns2 d W (HO2.out.below hW).rep (by omega)
            have hlen : (d.buf.length : Int) ≤ (k : Int) := by have h1 := HO2.out.rep.cells.2.2.2.2.2.2.2.1; have h2 := HD.out.1; omega
            have hdl : d.dropped ≤ 200 := by have := HD.out.2.2.1; omega
            have hdb : d.buf.length ≤ 200 := by have := HD.out.2.2.1; omega
            have hn : (((iN : Int) : Int) != (oN : Int) + (d.dropped : Int) + (d.buf.length : Int)) = false := by have := HD.out.2.2.1; simp; omega
            have hzw := HB2.out.size
            go_wp2_with fail
            refine (ST.out _ ((one _ _).alloc (by simp) _)).mono ?_
            rintro e w3 ⟨bv, wv, he3, hbv, hwv, hb3⟩
            obtain ⟨pb, cb, rfl, -⟩ := hbv.form2
            obtain ⟨pw, cw, rfl, -⟩ := hwv.form2
            rw [HD.out.1, HD.out.2.1] at he3
            obtain rfl := he3
            have hb4 := Below.trans ((one _ _).alloc (by simp) _) (hb3.mono (by first | exact Nat.le_refl _ | (simp; done) | (simp; omega)))
            have HO3 := Lib.hid (HO2.out.below hb4)
            have HB3 := Lib.hid (HB2.out.trans (hb4.mono hzw))
            clear hbv hwv hb3 hb4 ST
            go_wp2
            go_roundw
            case rel => exact ⟨i + 1, iN, oN, by omega, by go_num, by go_num, by go_num, ns2, d, HO3.out.below (one _ _), HB3.out.alloc HB3.out.size _, HD.out⟩
            case measure => simp [intOf]; omega
          · have HD : Hid (d.cap = k ∧ d.pol = p ∧ iN = oN + d.dropped + d.buf.length ∧ iN ≤ i + 1) := Lib.hid ⟨KK.out.cap.trans HC.out.1, KK.out.pol.trans HC.out.2, by have h1 := BAL.out; have h2 := HBal.out; simp at h1; omega, by omega⟩
            clear BAL KK
            have hw2 := HO2.out.wl
            have ST : Hid (∀ W, Below w2.heap.size w2 W → Calls Tryd.prog 14 #[.pointer (some ⟨w.heap.size, 0, none⟩)] W (statePost W d)) := Lib.hid fun W hW => state_any w.heap.size ns2 d W (HO2.out.below hW).rep (by omega)
            have hlen : (d.buf.length : Int) ≤ (k : Int) := by have h1 := HO2.out.rep.cells.2.2.2.2.2.2.2.1; have h2 := HD.out.1; omega
            have hdl : d.dropped ≤ 200 := by have := HD.out.2.2.1; omega
            have hdb : d.buf.length ≤ 200 := by have := HD.out.2.2.1; omega
            have hn : (((iN : Int) : Int) != (oN : Int) + (d.dropped : Int) + (d.buf.length : Int)) = false := by have := HD.out.2.2.1; simp; omega
            have hzw := HB2.out.size
            go_wp2_with fail
            refine (ST.out _ ((one _ _).alloc (by simp) _)).mono ?_
            rintro e w3 ⟨bv, wv, he3, hbv, hwv, hb3⟩
            obtain ⟨pb, cb, rfl, -⟩ := hbv.form2
            obtain ⟨pw, cw, rfl, -⟩ := hwv.form2
            rw [HD.out.1, HD.out.2.1] at he3
            obtain rfl := he3
            have hb4 := Below.trans ((one _ _).alloc (by simp) _) (hb3.mono (by first | exact Nat.le_refl _ | (simp; done) | (simp; omega)))
            have HO3 := Lib.hid (HO2.out.below hb4)
            have HB3 := Lib.hid (HB2.out.trans (hb4.mono hzw))
            clear hbv hwv hb3 hb4 ST
            go_wp2
            go_roundw
            case rel => exact ⟨i + 1, iN, oN, by omega, by go_num, by go_num, by go_num, ns2, d, HO3.out.below (one _ _), HB3.out.alloc HB3.out.size _, HD.out⟩
            case measure => simp [intOf]; omega
        · have j1 : (kd == 1) = false := by simpa using k1
          have RR := Lib.hid (run_any w.heap.size ns c kd t sd vk vn vs (wr.alloc (.cells #[.int .i64 kd, .int .i64 t, .bool sd, .int .i64 vk, .int .i64 vn, .string vs] 39)) (HO.out.rep.alloc _) (HO.out.env.below (one _ _)) HO.out.positive hsz hwl (by omega))
          have KK := Lib.hid (step_keeps c ⟨kd, t, sd, ⟨vk, vn, vs⟩⟩)
          have SS := Lib.hid (step_other c ⟨kd, t, sd, ⟨vk, vn, vs⟩⟩ k0 k1)
          clear k0 k1 hx
          go_wp2_with fail
          refine RR.out.mono ?_
          rintro e w2 ⟨rfl, hst⟩
          obtain ⟨ns2, hO2, hB2, -, hF2⟩ := HO.out.next KK.out (by omega) (stepPost.box hst) hzB
          have HO2 := Lib.hid hO2
          have HB2 := Lib.hid (HB.out.trans (hB2.mono (Nat.le_refl _)))
          have HD : Hid ((step c ⟨kd, t, sd, ⟨vk, vn, vs⟩⟩).cap = k ∧ (step c ⟨kd, t, sd, ⟨vk, vn, vs⟩⟩).pol = p ∧ iN = oN + (step c ⟨kd, t, sd, ⟨vk, vn, vs⟩⟩).dropped + (step c ⟨kd, t, sd, ⟨vk, vn, vs⟩⟩).buf.length ∧ iN ≤ i + 1) :=
            Lib.hid ⟨KK.out.cap.trans HC.out.1, KK.out.pol.trans HC.out.2, by rw [SS.out.1, SS.out.2]; exact HBal.out, by omega⟩
          clear hst hO2 hB2 hF2 KK SS
          generalize step c ⟨kd, t, sd, ⟨vk, vn, vs⟩⟩ = d at *
          have hw2 := HO2.out.wl
          have ST : Hid (∀ W, Below w2.heap.size w2 W → Calls Tryd.prog 14 #[.pointer (some ⟨w.heap.size, 0, none⟩)] W (statePost W d)) := Lib.hid fun W hW => state_any w.heap.size ns2 d W (HO2.out.below hW).rep (by omega)
          have hlen : (d.buf.length : Int) ≤ (k : Int) := by have h1 := HO2.out.rep.cells.2.2.2.2.2.2.2.1; have h2 := HD.out.1; omega
          have hdl : d.dropped ≤ 200 := by have := HD.out.2.2.1; omega
          have hdb : d.buf.length ≤ 200 := by have := HD.out.2.2.1; omega
          have hn : (((iN : Int) : Int) != (oN : Int) + (d.dropped : Int) + (d.buf.length : Int)) = false := by have := HD.out.2.2.1; simp; omega
          have hzw := HB2.out.size
          go_wp2_with fail
          refine (ST.out _ (Below.refl _ _)).mono ?_
          rintro e w3 ⟨bv, wv, he3, hbv, hwv, hb3⟩
          obtain ⟨pb, cb, rfl, -⟩ := hbv.form2
          obtain ⟨pw, cw, rfl, -⟩ := hwv.form2
          rw [HD.out.1, HD.out.2.1] at he3
          obtain rfl := he3
          have hb4 := Below.trans (Below.refl _ _) (hb3.mono (by first | exact Nat.le_refl _ | (simp; done) | (simp; omega)))
          have HO3 := Lib.hid (HO2.out.below hb4)
          have HB3 := Lib.hid (HB2.out.trans (hb4.mono hzw))
          clear hbv hwv hb3 hb4 ST
          go_wp2
          go_roundw
          case rel => exact ⟨i + 1, iN, oN, by omega, by go_num, by go_num, by go_num, ns2, d, HO3.out.below (one _ _), HB3.out.alloc HB3.out.size _, HD.out⟩
          case measure => simp [intOf]; omega
    · obtain rfl : i = m := by omega
      go_wp2_with fail
      refine (awake_any _ HO.out.env).mono ?_
      rintro e w2 ⟨rfl, hb2⟩
      have HB2 := Lib.hid (HB.out.trans (hb2.mono hzB))
      clear hb2
      go_wp2
      go_ret
      exact ⟨rfl, HB2.out⟩
end Go.Proofs.YtlibkhndekgnfaaDoor
