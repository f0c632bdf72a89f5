/- LockCopies returns true. -/
import Derived.Test.YtpkldcnkadfhgaaCopRel
namespace Go.Proofs.Ytpkldcnkadfhgaa
open Go.RowKit

set_option maxRecDepth 100000 in
set_option maxHeartbeats 16000000 in
theorem law_copies_A (q0 q : Option Addr) (cp0 cp : Nat) (L0 L : List Op) (w : World) (hL0 : OpsIn w q0 cp0 L0) (hL : OpsIn w q cp L) (h30 : 30 < L.length) :
    Calls Try.prog 9 #[.slice q0 L0.length cp0, .slice q L.length cp] w (still w (.bool true)) := by
  unfold still
  have HL := Lib.hid hL
  have hcp := hL.cap
  have hle := hL.le
  have hml : maxLen ≤ 9223372036854775807 := by unfold maxLen; omega
  have A9 := Lib.hid awake_any
  unfold still at A9
  have MA := Lib.hid (made_any q0 cp0 L0 w hL0)
  unfold madePost at MA
  generalize L0.length = n0 at *
  clear hL hL0
  go_enter Try.func9, Try.ntmps9
  go_wp2_with fail
  refine MA.out.mono ?_
  rintro e w1 ⟨bT, rfl, hO1⟩
  generalize Lk.plays Lk.new (L0.take 60) = T at *
  have HO1 := Lib.hid hO1
  have SS := Lib.hid (states_any bT w.heap.size T w1 hO1.tab)
  unfold stsPost at SS
  have hok := hO1.ok
  have hn16 := hok.n16
  have HOK := Lib.hid hok
  clear hO1 MA hok
  go_wp2_with fail
  refine SS.out.mono ?_
  rintro e w2 ⟨vS, Ss, rfl, hS⟩
  obtain ⟨pS, cS, rfl⟩ := owns_form hS.row
  have HS := Lib.hid hS
  have HO2 := Lib.hid (HO1.out.below hS.bel)
  have CP := Lib.hid (copy_any bT w.heap.size T w2 HO2.out.tab)
  unfold copyPost at CP
  generalize Ss.length = nS at *
  clear hS SS HO1
  go_wp2_with fail
  refine CP.out.mono ?_
  rintro e w3 ⟨bc, cb, rfl, hT3, hbc, hb3⟩
  have HU3 : Hid (Om w2 bc cb (Lk.plays T (L.take 0)) w3) := Lib.hid ⟨hT3, hbc, hb3⟩
  have hw12 := HO2.out.bel.size
  clear hT3 hbc hb3 CP
  go_wp2_with fail
  go_loopw [26] (fun vi wt => ∃ (i : Nat) (bl : Blocks), i ≤ 30 ∧ vi = .int .i64 i ∧ Om w2 bl cb (Lk.plays T (L.take i)) wt) (fun vi _ => 30 - (intOf vi).toNat)
  case atStart => exact ⟨0, _, Nat.zero_le _, rfl, HU3.out⟩
  case round =>
    obtain ⟨i, bl, hin, rfl, hO⟩ := hrel
    have HO := Lib.hid hO
    have hzw := hO.bel.size
    clear hO HU3
    by_cases hlt : i < 30
    · obtain ⟨x, hx⟩ : ∃ x, L[i]? = some x := ⟨_, List.getElem?_eq_getElem (by omega)⟩
      have HP := Lib.hid (Lk.plays_succ T hx)
      obtain ⟨ab, ao, hq, hab, q0, q1, q2⟩ := HL.out.cells hx (HO2.out.bel.trans (HO.out.bel.mono hw12))
      obtain ⟨w0, w1', wp⟩ := HL.out.wf i x hx
      obtain ⟨kd, lk, p⟩ := x
      simp only at q0 q1 q2 wp
      subst hq
      have habr : ab < wr.heap.size := by omega
      have ii0 : (0 : Int) ≤ (i : Int) := by omega
      have HO0 := Lib.hid (HO.out.below (one wr (.cells #[.int .i64 kd, .int .i64 lk, .int .i64 p] 29)))
      have RN := Lib.hid (run_any bl cb _ kd lk p _ HO0.out.tab wp)
      unfold runPost at RN
      clear hx w0 w1' HO
      go_wp2_with fail
      refine RN.out.mono ?_
      rintro e w4 ⟨rfl, hG⟩
      obtain ⟨bl2, h2, -, -⟩ := HO0.out.gone hG
      have H2 : Hid (Om w2 bl2 cb (Lk.plays T (L.take (i + 1))) w4) := Lib.hid (by rw [HP.out]; exact h2)
      generalize (Lk.step (Lk.plays T (L.take i)) kd lk p).2 = b2
      clear hG h2 RN HO0 q0 q1 q2 HP
      go_wp2
      go_roundw
      case rel => exact ⟨i + 1, bl2, by omega, by go_num, H2.out⟩
      case measure => simp [intOf]; omega
    · obtain rfl : i = 30 := by omega
      have HT4 := Lib.hid (HO2.out.below HO.out.bel)
      have HS4 := Lib.hid (HS.out.below HO.out.bel)
      have S2 := Lib.hid (states_any bT w.heap.size T wr HT4.out.tab)
      unfold stsPost at S2
      have HTW : Hid (Tw w bT w.heap.size (Lk.plays T (L.take 0)) bl cb (Lk.plays T (L.take 30)) wr) := Lib.hid ⟨HT4.out, by rw [show L.take 30 = L.take (30) from rfl]; exact HO.out.tab, fun r k e => by have := HO.out.ge r k e; omega, fun r r' k e e' => by have := HO2.out.tab.lt e; have := HO.out.ge r' k e'; omega⟩
      clear HO HT4 HS
      go_wp2_with fail
      refine S2.out.mono ?_
      rintro e w5 ⟨vS2, Ss2, rfl, hS5⟩
      have AL := Lib.hid (alike_true w5 hS5 (HS4.out.below hS5.bel) HOK.out)
      have HTW5 := Lib.hid (HTW.out.below hS5.bel)
      obtain ⟨pS2, cS2, rfl⟩ := owns_form hS5.row
      generalize Ss2.length = nS2 at *
      have hz5 := HTW5.out.om.bel.size
      unfold still at AL
      clear hS5 HTW HS4 S2
      go_wp2_with fail
      refine AL.out.mono ?_
      rintro e w6 ⟨rfl, hb6⟩
      have HTW6 := Lib.hid (HTW5.out.below hb6)
      have hz6 := HTW6.out.om.bel.size
      clear hb6 HTW5 AL
      go_wp2_with fail
      go_loopw [45] (fun vi wt => ∃ (j : Nat) (b1 : Blocks), j ≤ 30 ∧ vi = .int .i64 j ∧ Tw w b1 w.heap.size (Lk.plays T (L.take j)) bl cb (Lk.plays T (L.take 30)) wt) (fun vi _ => 30 - (intOf vi).toNat)
      case atStart => exact ⟨0, _, Nat.zero_le _, rfl, HTW6.out⟩
      case round =>
        obtain ⟨j, b1, hin, rfl, hT⟩ := hrel
        have HT := Lib.hid hT
        have hzw := hT.om.bel.size
        clear hT HTW6
        by_cases hlt : j < 30
        · obtain ⟨x, hx⟩ : ∃ x, L[j]? = some x := ⟨_, List.getElem?_eq_getElem (by omega)⟩
          have HP := Lib.hid (Lk.plays_succ T hx)
          obtain ⟨ab, ao, hq, hab, q0, q1, q2⟩ := HL.out.cells hx HT.out.om.bel
          obtain ⟨w0, w1', wp⟩ := HL.out.wf j x hx
          obtain ⟨kd, lk, p⟩ := x
          simp only at q0 q1 q2 wp
          subst hq
          have habr : ab < wr.heap.size := by omega
          have ii0 : (0 : Int) ≤ (j : Int) := by omega
          have HT0 := Lib.hid (HT.out.below (one wr (.cells #[.int .i64 kd, .int .i64 lk, .int .i64 p] 29)))
          have RN := Lib.hid (run_any b1 w.heap.size _ kd lk p _ HT0.out.om.tab wp)
          unfold runPost at RN
          clear hx w0 w1' HT
          go_wp2_with fail
          refine RN.out.mono ?_
          rintro e w7 ⟨rfl, hG⟩
          obtain ⟨b2, h2⟩ := HT0.out.gone hG
          have H2 : Hid (Tw w b2 w.heap.size (Lk.plays T (L.take (j + 1))) bl cb (Lk.plays T (L.take 30)) w7) := Lib.hid (by rw [HP.out]; exact h2)
          generalize (Lk.step (Lk.plays T (L.take j)) kd lk p).2 = bb2
          clear hG h2 RN HT0 q0 q1 q2 HP
          go_wp2
          go_roundw
          case rel => exact ⟨j + 1, b2, by omega, by go_num, H2.out⟩
          case measure => simp [intOf]; omega
        · obtain rfl : j = 30 := by omega
          have htk : L.take 30 = L.take (30) := rfl
          have HTF : Hid (Tw w b1 w.heap.size (Lk.plays T (L.take 30)) bl cb (Lk.plays T (L.take 30)) wr) := Lib.hid (by have := HT.out; rw [← htk] at this; exact this)
          clear htk
          generalize Lk.plays T (L.take 30) = F at *
          have S3 := Lib.hid (states_any b1 w.heap.size F wr HTF.out.om.tab)
          unfold stsPost at S3
          clear HT
          go_wp2_with fail
          refine S3.out.mono ?_
          rintro e w8 ⟨vA, SA, rfl, hA⟩
          have HT8 := Lib.hid (HTF.out.below hA.bel)
          have S4 := Lib.hid (states_any bl cb F w8 HT8.out.tab)
          unfold stsPost at S4
          have HA := Lib.hid hA
          obtain ⟨pA, cA, rfl⟩ := owns_form hA.row
          obtain ⟨nA, hnA⟩ : ∃ nA, nA = SA.length := ⟨_, rfl⟩
          rw [← hnA] at HA ⊢
          clear hA S3 HTF hnA
          go_wp2_with fail
          refine S4.out.mono ?_
          rintro e w9 ⟨vB, SB, rfl, hB⟩
          have HT9 := Lib.hid (HT8.out.below hB.bel)
          have AL2 := Lib.hid (alike_true w9 (HA.out.below hB.bel) hB HT9.out.om.ok)
          obtain ⟨pB, cB, rfl⟩ := owns_form hB.row
          generalize SB.length = nB at *
          unfold still at AL2
          clear hB S4 HT8 HA
          go_wp2_with fail
          refine AL2.out.mono ?_
          rintro e w10 ⟨rfl, hb10⟩
          have HT10 := Lib.hid (HT9.out.below hb10)
          have K1 := Lib.hid (stuck_any b1 w.heap.size F w10 HT10.out.om.tab)
          unfold lineNew at K1
          clear hb10 HT9 AL2
          go_wp2_with fail
          refine K1.out.mono ?_
          rintro e w11 ⟨vP, rfl, hP, -, hb11⟩
          have HT11 := Lib.hid (HT10.out.below hb11)
          have K2 := Lib.hid (stuck_any bl cb F w11 HT11.out.tab)
          unfold lineNew at K2
          have HPl := Lib.hid hP
          obtain ⟨pP, cP, eP, -⟩ := hP.form
          obtain ⟨nP, hnP⟩ : ∃ nP, nP = (Lk.stuck F).length := ⟨_, rfl⟩
          rw [← hnP] at eP
          subst eP
          have HNP := Lib.hid hnP
          clear hP hb11 HT10 K1 hnP
          go_wp2_with fail
          refine K2.out.mono ?_
          rintro e w12 ⟨vQ, rfl, hQ, -, hb12⟩
          have HT12 := Lib.hid (HT11.out.below hb12)
          obtain ⟨pQ, cQ, eQ, -⟩ := hQ.form
          have EQ := Lib.hid (equal_lines (.slice pP nP cP) vQ pQ cQ (Lk.stuck F).length (Lk.stuck F) (Lk.stuck F) w12 (HPl.out.below hb12) hQ eQ (by simp) (Lk.stuck_len HT12.out.om.ok))
          rw [← HNP.out] at eQ EQ
          subst eQ
          unfold still at EQ
          clear hQ hb12 HT11 K2
          go_wp2_with fail
          refine EQ.out.mono ?_
          rintro e w13 ⟨rfl, hb13⟩
          have HB13 := Lib.hid ((HT12.out.below hb13).om.bel)
          have hz13 := HB13.out.size
          clear hb13 EQ HT12
          go_wp2_with fail
          refine (A9.out _).mono ?_
          rintro e w14 ⟨rfl, hb14⟩
          go_wp2
          go_ret
          exact ⟨rfl, HB13.out.trans (hb14.mono hz13)⟩
end Go.Proofs.Ytpkldcnkadfhgaa
