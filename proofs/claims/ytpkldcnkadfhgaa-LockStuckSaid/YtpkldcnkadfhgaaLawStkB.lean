/- LockStuck returns true. -/
import Derived.Test.YtpkldcnkadfhgaaStkRel
namespace Go.Proofs.Ytpkldcnkadfhgaa
open Go.RowKit

set_option maxRecDepth 100000 in
set_option maxHeartbeats 16000000 in
theorem law_stuck_B (q0 q : Option Addr) (cp0 cp : Nat) (L0 L : List Op) (w : World) (hL0 : OpsIn w q0 cp0 L0) (hL : OpsIn w q cp L) (h40 : L.length ≤ 40) :
    Calls Try.prog 7 #[.slice q0 L0.length cp0, .slice q L.length cp] w (still w (.bool true)) := by
  unfold still
  have HL := Lib.hid hL
  have hcp := hL.cap
  have hle := hL.le
  have hml : maxLen ≤ 9223372036854775807 := by unfold maxLen; omega
  have A9 := Lib.hid awake_any
  unfold still at A9
  have MA := Lib.hid (made_any q0 cp0 L0 w hL0)
  unfold madePost at MA
  generalize L0.length = n0 at *
  clear hL hL0
  go_enter Try.func7, Try.ntmps7
  go_wp2_with fail
  refine MA.out.mono ?_
  rintro e w1 ⟨bT, rfl, hO1⟩
  generalize Lk.plays Lk.new (L0.take 60) = T at *
  have K1 := Lib.hid (stuck_any bT w.heap.size T w1 hO1.tab)
  unfold lineNew at K1
  have HO1 := Lib.hid hO1
  have HKN0 := Lib.hid (Lk.stuck_knot hO1.ok)
  have HSA := Lib.hid (Lk.stuck_asc hO1.ok)
  have HSL := Lib.hid (Lk.stuck_len hO1.ok)
  clear hO1 MA
  go_wp2_with fail
  refine K1.out.mono ?_
  rintro e w2 ⟨vS, rfl, hS, hSn, hb2⟩
  have IS := Lib.hid (isSorted_any vS _ w2 hS HSA.out HSL.out)
  unfold still at IS
  have HSK2 : Hid (Sk w w.heap.size vS (Lk.stuck T) T w2) := Lib.hid ⟨⟨bT, HO1.out.below hb2, fun r k e e' => by have := HO1.out.tab.lt e; have := hSn k e'; omega⟩, hS⟩
  obtain ⟨pS, cS, eS, -⟩ := hS.form
  obtain ⟨nS, hnS⟩ : ∃ nS, nS = (Lk.stuck T).length := ⟨_, rfl⟩
  rw [← hnS] at eS
  subst eS
  have HNS := Lib.hid hnS
  have hnS2 : nS ≤ 1000000 := by have := HSL.out; omega
  clear hS hSn hb2 K1 hnS HO1
  go_wp2_with fail
  refine IS.out.mono ?_
  rintro e w3 ⟨rfl, hb3⟩
  have HSK3 := Lib.hid (HSK2.out.below hb3)
  clear hb3 IS HSK2
  go_wp2_with fail
  go_loopw [27] (fun vi wt => ∃ (i : Nat) (t : Lk.T), i ≤ L.length ∧ vi = .int .i64 i ∧ Sk w w.heap.size (.slice pS nS cS) (Lk.stuck T) t wt ∧ Lk.Knot t (fun x => x ∈ Lk.stuck T)) (fun vi _ => L.length - (intOf vi).toNat)
  case atStart => exact ⟨0, T, Nat.zero_le _, rfl, HSK3.out, HKN0.out⟩
  case round =>
    obtain ⟨i, t, hin, rfl, hK, hKn⟩ := hrel
    have HSK := Lib.hid hK
    have HKN := Lib.hid hKn
    have HBel : Hid (Below w.heap.size w wr) := Lib.hid (by obtain ⟨⟨bl, h1, -⟩, -⟩ := hK; exact h1.bel)
    have hzw := HBel.out.size
    clear hK hKn HSK3 HKN0
    by_cases hlt : i < L.length
    · obtain ⟨x, hx⟩ : ∃ x, L[i]? = some x := ⟨_, List.getElem?_eq_getElem (by omega)⟩
      obtain ⟨ab, ao, hq, hab, q0, q1, q2⟩ := HL.out.cells hx HBel.out
      obtain ⟨w0, w1', wp⟩ := HL.out.wf i x hx
      obtain ⟨kd, lk, p⟩ := x
      simp only at q0 q1 q2 wp
      subst hq
      have habr : ab < wr.heap.size := by omega
      have ii0 : (0 : Int) ≤ (i : Int) := by omega
      have HSK0 := Lib.hid (HSK.out.below (one wr (.cells #[.int .i64 kd, .int .i64 lk, .int .i64 p] 29)))
      have HLN0 : Hid (Line (wr.alloc (.cells #[.int .i64 kd, .int .i64 lk, .int .i64 p] 29)) (.slice pS nS cS) (Lk.stuck T)) := Lib.hid HSK0.out.line
      have CT := Lib.hid (contains_line _ _ _ p HLN0.out (by have := HNS.out; omega))
      clear hx w0 w1'
      go_wp2_with fail
      refine CT.out.mono ?_
      rintro e w3 ⟨rfl, rfl⟩
      clear CT
      by_cases hc : (Lk.stuck T).contains p = true
      · rw [hc]
        by_cases hk0 : kd = 0
        · subst hk0
          have RN := Lib.hid (fun bl (h : Tab (wr.alloc (.cells #[.int .i64 0, .int .i64 lk, .int .i64 p] 29)) bl w.heap.size t) => run_any bl w.heap.size t 0 lk p _ h wp)
          unfold runPost at RN
          have HKN2 := Lib.hid (HKN.out.step 0 lk p (.inr rfl))
          obtain ⟨⟨bl, hO1, hd1⟩, hln1⟩ := HSK0.out
          have RN1 := Lib.hid (RN.out bl hO1.tab)
          have HO1 := Lib.hid hO1
          have HD1 := Lib.hid hd1
          clear hO1 hd1 hln1 RN HSK HSK0 HKN
          go_wp2_with fail
          refine RN1.out.mono ?_
          rintro e w4 ⟨rfl, hG⟩
          obtain ⟨bl2, h2, h2k, h2f⟩ := HO1.out.gone hG
          have HSK2 : Hid (Sk w w.heap.size (.slice pS nS cS) (Lk.stuck T) (Lk.step t 0 lk p).1 w4) := Lib.hid ⟨⟨bl2, h2, fun r k e e' => (h2k r k e).elim (fun h => HD1.out r k h e') (fun h => by have := HLN0.out.block k e'; omega)⟩, HLN0.out.fr h2f fun k e ⟨r, e'⟩ => HD1.out r k e' e⟩
          generalize (Lk.step t 0 lk p).1 = t2 at *
          generalize (Lk.step t 0 lk p).2 = bb
          have KS2 := Lib.hid (stuck_any bl2 w.heap.size t2 w4 h2.tab)
          have HOK2 := Lib.hid h2.ok
          unfold lineNew at KS2
          clear hG h2 h2k h2f RN1 HO1 HD1 HLN0
          go_wp2_with fail
          refine KS2.out.mono ?_
          rintro e w5 ⟨vN, rfl, hN, -, hb5⟩
          have HSK3 := Lib.hid (HSK2.out.below hb5)
          have HN5 := Lib.hid hN
          obtain ⟨pN, cN, eN, -⟩ := hN.form
          obtain ⟨nN, hnN⟩ : ∃ nN, nN = (Lk.stuck t2).length := ⟨_, rfl⟩
          rw [← hnN] at eN
          subst eN
          have hz5 := hb5.size
          clear hN hb5 hnN KS2 HSK2
          go_wp2_with fail
          go_loopw [47] (fun vj wt => ∃ j : Nat, j ≤ nS ∧ vj = .int .i64 j ∧ Below w5.heap.size w5 wt) (fun vj _ => nS - (intOf vj).toNat)
          case atStart => exact ⟨0, Nat.zero_le _, rfl, Below.refl _ _⟩
          case round =>
            obtain ⟨j, hj, rfl, hB⟩ := hrel
            have HB := Lib.hid hB
            have hzj := hB.size
            clear hB
            by_cases hjl : j < nS
            · obtain ⟨x, hx⟩ : ∃ x, (Lk.stuck T)[j]? = some x := ⟨_, List.getElem?_eq_getElem (by have := HNS.out; omega)⟩
              have hln := HSK3.out.line.below HB.out
              obtain ⟨pv', cv', e, -, -, hpv⟩ := hln.form
              rw [← HNS.out] at e
              cases e
              obtain ⟨g, off, rfl, hg⟩ := hpv (by have := HNS.out; omega)
              have cq := hln.cell hx
              have CT := Lib.hid (contains_line wr _ _ x (HN5.out.below HB.out) (by have := Lk.stuck_len HOK2.out; omega))
              have hin : (Lk.stuck t2).contains x = true := by
                rw [List.contains_iff_mem]
                exact HKN2.out.stuck HOK2.out (List.mem_of_getElem? hx)
              rw [hin] at CT
              have jj0 : (0 : Int) ≤ (j : Int) := by omega
              have jj1 : (j : Int) < (nS : Int) := by omega
              clear hln hx hin
              go_wp2_with fail
              refine CT.out.mono ?_
              rintro e w6 ⟨rfl, rfl⟩
              clear CT
              go_wp2
              go_roundw
              case rel => exact ⟨j + 1, by omega, by go_num, HB.out⟩
              case measure => simp [intOf]; omega
            · obtain rfl : j = nS := by omega
              have HSK4 := Lib.hid (HSK3.out.below HB.out)
              clear HSK3
              go_wp2
              go_roundw
              case rel => exact ⟨i + 1, t2, by omega, by go_num, HSK4.out, HKN2.out⟩
              case measure => simp [intOf]; omega
        · have hk1 : (kd != 0) = true := by simpa using hk0
          go_wp2
          go_roundw
          case rel => exact ⟨i + 1, t, by omega, by go_num, HSK0.out, HKN.out⟩
          case measure => simp [intOf]; omega
      · have hpS : ¬ p ∈ Lk.stuck T := fun h => hc (by rw [List.contains_iff_mem]; exact h)
        have hc' : (Lk.stuck T).contains p = false := by simpa using hc
        rw [hc']
        have RN := Lib.hid (fun bl (h : Tab (wr.alloc (.cells #[.int .i64 kd, .int .i64 lk, .int .i64 p] 29)) bl w.heap.size t) => run_any bl w.heap.size t kd lk p _ h wp)
        unfold runPost at RN
        have HKN2 := Lib.hid (HKN.out.step kd lk p (.inl hpS))
        obtain ⟨⟨bl, hO1, hd1⟩, hln1⟩ := HSK0.out
        have RN1 := Lib.hid (RN.out bl hO1.tab)
        have HO1 := Lib.hid hO1
        have HD1 := Lib.hid hd1
        clear hO1 hd1 hln1 RN HSK HSK0 HKN
        go_wp2_with fail
        refine RN1.out.mono ?_
        rintro e w4 ⟨rfl, hG⟩
        obtain ⟨bl2, h2, h2k, h2f⟩ := HO1.out.gone hG
        have HSK2 : Hid (Sk w w.heap.size (.slice pS nS cS) (Lk.stuck T) (Lk.step t kd lk p).1 w4) := Lib.hid ⟨⟨bl2, h2, fun r k e e' => (h2k r k e).elim (fun h => HD1.out r k h e') (fun h => by have := HLN0.out.block k e'; omega)⟩, HLN0.out.fr h2f fun k e ⟨r, e'⟩ => HD1.out r k e' e⟩
        generalize (Lk.step t kd lk p).1 = t2 at *
        generalize (Lk.step t kd lk p).2 = bb
        have KS2 := Lib.hid (stuck_any bl2 w.heap.size t2 w4 h2.tab)
        have HOK2 := Lib.hid h2.ok
        unfold lineNew at KS2
        clear hG h2 h2k h2f RN1 HO1 HD1 HLN0
        go_wp2_with fail
        refine KS2.out.mono ?_
        rintro e w5 ⟨vN, rfl, hN, -, hb5⟩
        have HSK3 := Lib.hid (HSK2.out.below hb5)
        have HN5 := Lib.hid hN
        obtain ⟨pN, cN, eN, -⟩ := hN.form
        obtain ⟨nN, hnN⟩ : ∃ nN, nN = (Lk.stuck t2).length := ⟨_, rfl⟩
        rw [← hnN] at eN
        subst eN
        have hz5 := hb5.size
        clear hN hb5 hnN KS2 HSK2
        go_wp2_with fail
        go_loopw [47] (fun vj wt => ∃ j : Nat, j ≤ nS ∧ vj = .int .i64 j ∧ Below w5.heap.size w5 wt) (fun vj _ => nS - (intOf vj).toNat)
        case atStart => exact ⟨0, Nat.zero_le _, rfl, Below.refl _ _⟩
        case round =>
          obtain ⟨j, hj, rfl, hB⟩ := hrel
          have HB := Lib.hid hB
          have hzj := hB.size
          clear hB
          by_cases hjl : j < nS
          · obtain ⟨x, hx⟩ : ∃ x, (Lk.stuck T)[j]? = some x := ⟨_, List.getElem?_eq_getElem (by have := HNS.out; omega)⟩
            have hln := HSK3.out.line.below HB.out
            obtain ⟨pv', cv', e, -, -, hpv⟩ := hln.form
            rw [← HNS.out] at e
            cases e
            obtain ⟨g, off, rfl, hg⟩ := hpv (by have := HNS.out; omega)
            have cq := hln.cell hx
            have CT := Lib.hid (contains_line wr _ _ x (HN5.out.below HB.out) (by have := Lk.stuck_len HOK2.out; omega))
            have hin : (Lk.stuck t2).contains x = true := by
              rw [List.contains_iff_mem]
              exact HKN2.out.stuck HOK2.out (List.mem_of_getElem? hx)
            rw [hin] at CT
            have jj0 : (0 : Int) ≤ (j : Int) := by omega
            have jj1 : (j : Int) < (nS : Int) := by omega
            clear hln hx hin
            go_wp2_with fail
            refine CT.out.mono ?_
            rintro e w6 ⟨rfl, rfl⟩
            clear CT
            go_wp2
            go_roundw
            case rel => exact ⟨j + 1, by omega, by go_num, HB.out⟩
            case measure => simp [intOf]; omega
          · obtain rfl : j = nS := by omega
            have HSK4 := Lib.hid (HSK3.out.below HB.out)
            clear HSK3
            go_wp2
            go_roundw
            case rel => exact ⟨i + 1, t2, by omega, by go_num, HSK4.out, HKN2.out⟩
            case measure => simp [intOf]; omega
    · obtain rfl : i = L.length := by omega
      obtain ⟨⟨bl, hO1, -⟩, -⟩ := HSK.out
      have K3 := Lib.hid (stuck_any bl w.heap.size t wr hO1.tab)
      unfold lineNew at K3
      have HO1 := Lib.hid hO1
      have HOK := Lib.hid hO1.ok
      have HSL2 := Lib.hid (Lk.stuck_len hO1.ok)
      clear hO1 HSK HKN
      go_wp2_with fail
      refine K3.out.mono ?_
      rintro e w4 ⟨vF, rfl, hF, hFn, hb4⟩
      have HSF : Hid (Sk w w.heap.size vF (Lk.stuck t) t w4) := Lib.hid ⟨⟨bl, HO1.out.below hb4, fun r k e e' => by have := HO1.out.tab.lt e; have := hFn k e'; omega⟩, hF⟩
      obtain ⟨pF, cF, eF, -⟩ := hF.form
      obtain ⟨nF, hnF⟩ : ∃ nF, nF = (Lk.stuck t).length := ⟨_, rfl⟩
      rw [← hnF] at eF
      subst eF
      have HNF := Lib.hid hnF
      have hnF2 : nF ≤ 1000000 := by have := HSL2.out; omega
      clear hF hFn hb4 K3 hnF HO1 HBel
      go_wp2_with fail
      go_loopw [60] (fun vj wt => ∃ (j : Nat) (t2 : Lk.T), j ≤ nF ∧ vj = .int .i64 j ∧ Sk w w.heap.size (.slice pF nF cF) (Lk.stuck t) t2 wt ∧ Lk.Wd t (Lk.stuck t) j t2) (fun vj _ => nF - (intOf vj).toNat)
      case atStart => exact ⟨0, t, Nat.zero_le _, rfl, HSF.out, Lk.Wd.start _ _⟩
      case round =>
        obtain ⟨j, t2, hj, rfl, hK, hW⟩ := hrel
        have HK := Lib.hid hK
        have HW := Lib.hid hW
        clear hK hW HSF
        by_cases hjl : j < nF
        · obtain ⟨x, hx⟩ : ∃ x, (Lk.stuck t)[j]? = some x := ⟨_, List.getElem?_eq_getElem (by have := HNF.out; omega)⟩
          have hln := HK.out.line
          obtain ⟨pv', cv', e, -, -, hpv⟩ := hln.form
          rw [← HNF.out] at e
          cases e
          obtain ⟨g, off, rfl, hg⟩ := hpv (by have := HNF.out; omega)
          have cq := hln.cell hx
          have hwt := HW.out.waits HOK.out hx
          have hxp := isP_wf (Lk.stuck_p HOK.out x (List.mem_of_getElem? hx))
          obtain ⟨⟨bl2, hO2, hd2⟩, -⟩ := HK.out
          have WA := Lib.hid (withdraw_any bl2 w.heap.size t2 x wr hO2.tab hxp)
          unfold wdPost at WA
          rw [hwt] at WA
          simp only [if_true] at WA
          have HX := Lib.hid hx
          have HO2 := Lib.hid hO2
          have HD2 := Lib.hid hd2
          have HLF := Lib.hid hln
          have jj0 : (0 : Int) ≤ (j : Int) := by omega
          have jj1 : (j : Int) < (nF : Int) := by omega
          clear hln hx hwt hxp hO2 hd2
          go_wp2_with fail
          refine WA.out.mono ?_
          rintro e w6 ⟨rfl, i2, l2, hl2, -, hG⟩
          obtain ⟨bl3, h3, h3k, h3f⟩ := HO2.out.gone hG
          have HK6 : Hid (Sk w w.heap.size (.slice (some ⟨g, off, none⟩) nF cF) (Lk.stuck t) (Lk.withdraw t2 i2 l2 x) w6) := Lib.hid ⟨⟨bl3, h3, fun r k e e' => (h3k r k e).elim (fun h => HD2.out r k h e') (fun h => by have := HLF.out.block k e'; omega)⟩, HLF.out.fr h3f fun k e ⟨r, e'⟩ => HD2.out r k e' e⟩
          have HW6 := Lib.hid (HW.out.step HX.out hl2)
          clear WA hl2 hG h3 h3k h3f HO2 HD2 HLF HK HW cq
          go_wp2
          go_roundw
          case rel => exact ⟨j + 1, _, by omega, by go_num, HK6.out, HW6.out⟩
          case measure => simp [intOf]; omega
        · obtain rfl : j = nF := by omega
          obtain ⟨⟨bl2, hO2, -⟩, -⟩ := HK.out
          have hnil : Lk.stuck t2 = [] := Lk.Wd.fin (by rw [← HNF.out]; exact HW.out) HOK.out hO2.ok
          have K5 := Lib.hid (stuck_any bl2 w.heap.size t2 wr hO2.tab)
          rw [hnil] at K5
          unfold lineNew at K5
          have HBel2 := Lib.hid hO2.bel
          have hz2 := hO2.bel.size
          clear hO2 HK HW hnil
          go_wp2_with fail
          refine K5.out.mono ?_
          rintro e w7 ⟨vE, rfl, hE, -, hb7⟩
          obtain ⟨pE, cE, eE, -⟩ := hE.form
          rw [List.length_nil] at eE
          subst eE
          have HB7 := Lib.hid (HBel2.out.trans (hb7.mono hz2))
          have hz7 := HB7.out.size
          clear hE hb7 K5
          go_wp2_with fail
          refine (A9.out _).mono ?_
          rintro e w8 ⟨rfl, hb8⟩
          go_wp2
          go_ret
          exact ⟨rfl, HB7.out.trans (hb8.mono hz7)⟩
end Go.Proofs.Ytpkldcnkadfhgaa
