/- What leading does. -/
import Derived.Test.YtieipohbdogljaaNum
namespace Go.Proofs.Ytieipohbdogljaa
set_option linter.unusedVariables false
set_option linter.unusedSimpArgs false
open Go.RowKit
theorem get_list (s : ByteArray) (k : Nat) (h : k < s.size) : s.data.toList[k]? = some s[k] := by
  rw [List.getElem?_eq_getElem (by rw [list_len]; exact h)]; rfl
def leadV (l : List UInt8) : Value := .tuple #[.int .i64 ((Pk.lead l).1 : Nat), .int .i64 ((Pk.lead l).2.1 : Nat), .bool (Pk.lead l).2.2]
set_option maxRecDepth 100000 in
set_option maxHeartbeats 2000000 in
theorem leading_any (s : ByteArray) (w : World) (hs : s.size ≤ maxLen) : Calls Try.prog 17 #[.string s] w fun e w' => e = .returned (leadV s.data.toList) ∧ w = w' := by
  unfold maxLen at hs
  obtain ⟨K, hK⟩ : ∃ K, K = min s.size 9 := ⟨_, rfl⟩
  have e1 : min (s.size : Int) 9 = (K : Int) := by omega
  have k1 : K ≤ s.size := by omega
  have k2 : K ≤ 9 := by omega
  have HK := Lib.hid hK
  unfold leadV
  clear hK
  go_enter Try.func17, Try.ntmps17
  go_wp2
  go_loop [2, 3] (fun x y => ∃ k a : Nat, k ≤ K ∧ y = .int .i64 (k : Int) ∧ x = .int .i64 (a : Int) ∧ a < 128 ^ k ∧ Hid (Pk.lead s.data.toList = Pk.leadFrom s.data.toList k (9 - k) ∧ Pk.val (s.data.toList.take k) = a)) (fun _ y => K - (intOf y).toNat)
  case atStart => exact ⟨0, 0, Nat.zero_le _, rfl, rfl, by simp, Lib.hid ⟨rfl, rfl⟩⟩
  case round =>
    obtain ⟨k, a, hk, rfl, rfl, ha, hQ⟩ := hrel
    by_cases hlt : k < K
    · have hls : k < s.size := by omega
      obtain ⟨c, hc⟩ : ∃ c : Nat, c = s[k].toNat := ⟨_, rfl⟩
      have hc2 : c < 256 := by rw [hc]; exact s[k].toNat_lt
      have h255 : (s[k].toNat : Int) ≤ 255 := by omega
      have j1 : (k : Int) < (s.size : Int) := by omega
      have j2 : (k : Int) < 9 := by omega
      have hpw : (2 : Int) ^ (7 * k) = ((128 ^ k : Nat) : Int) := by rw [Int.pow_mul]; simp
      have hple : 128 ^ k ≤ 128 ^ 8 := Nat.pow_le_pow_right (by omega) (by omega)
      obtain ⟨a', ha'⟩ : ∃ z, z = a + c % 128 * 128 ^ k := ⟨_, rfl⟩
      have hmul : c % 128 * 128 ^ k ≤ 127 * 128 ^ k := Nat.mul_le_mul_right _ (by omega)
      have hlt' : a' < 128 ^ (k + 1) := by rw [Nat.pow_succ]; omega
      have h63 : a' ≤ 9223372036854775807 := by omega
      have HW : wrap64 ((a : Int) + wrap64 ((s[k].toNat : Int) % 128 * 2 ^ (7 * k))) = (a' : Int) := by
        rw [← hc, hpw]
        have e : (c : Int) % 128 * ((128 ^ k : Nat) : Int) = ((c % 128 * 128 ^ k : Nat) : Int) := by rw [Int.natCast_mul, Int.natCast_emod]; rfl
        obtain ⟨x, hx⟩ : ∃ x, x = c % 128 * 128 ^ k := ⟨_, rfl⟩
        rw [← hx] at e ha' hmul
        rw [e, IntWalk.wrap64_in (x : Int) (by omega), IntWalk.wrap64_in ((a : Int) + (x : Int)) (by omega)]
        omega
      have HWH := Lib.hid HW
      have hgl := get_list s k hls
      have hval : Pk.val (s.data.toList.take (k + 1)) = a' := by
        rw [take_next s k hls, Pk.val_snoc, hQ.out.2, List.length_take, list_len, Nat.min_eq_left (by omega), ← hc, ha']
      obtain ⟨f, hf⟩ : ∃ f, 9 - k = f + 1 := ⟨8 - k, by omega⟩
      have hQ1 := hQ.out.1
      rw [hf] at hQ1
      have HLT := Lib.hid hlt'
      clear hple hmul hpw ha' HW hlt' h63 ha
      by_cases hA : 128 ≤ c
      · have jA : (128 : Int) ≤ (s[k].toNat : Int) := by omega
        have hQ' : Hid (Pk.lead s.data.toList = Pk.leadFrom s.data.toList (k + 1) (9 - (k + 1)) ∧ Pk.val (s.data.toList.take (k + 1)) = a') := Lib.hid ⟨by
          rw [hQ1, Pk.from_next hgl (by omega)]
          congr 1; omega, hval⟩
        clear hQ hQ1 hval hgl hf hc hA hc2
        go_wp2
        go_round
        case rel => exact ⟨k + 1, a', by omega, rfl, by rw [HWH.out], HLT.out, hQ'⟩
        case measure => simp [intOf]; omega
      · have jA : ¬ (128 : Int) ≤ (s[k].toNat : Int) := by omega
        rw [Pk.from_last hgl (by omega), hval] at hQ1
        by_cases hB : 1152921504606846976 < a'
        · have hneg : ¬ (a' ≤ 1152921504606846976 ∧ ¬ (s[k].toNat = 0 ∧ 0 < k)) := fun h => absurd h.1 (Nat.not_le_of_lt hB)
          rw [if_neg hneg] at hQ1
          clear hneg
          have HR := Lib.hid hQ1
          have jB : (1152921504606846976 : Int) < wrap64 ((a : Int) + wrap64 ((s[k].toNat : Int) % 128 * 2 ^ (7 * k))) := by rw [HWH.out]; exact Int.ofNat_lt.2 hB
          clear hQ hQ1 hval hgl hf hc hA hc2 hB
          go_wp2
          all_goals go_ret3
          all_goals exact ⟨by rw [HR.out]; first | (rw [HWH.out]; done) | (rw [HWH.out]; rfl) | rfl, rfl⟩
        · have jB : ¬ (1152921504606846976 : Int) < wrap64 ((a : Int) + wrap64 ((s[k].toNat : Int) % 128 * 2 ^ (7 * k))) := by rw [HWH.out]; exact fun h => hB (Int.ofNat_lt.1 h)
          by_cases hC : c = 0
          · have jC : ((s[k].toNat : Int) == 0) = true := by rw [← hc, hC]; rfl
            by_cases hD : k = 0
            · have hpos : a' ≤ 1152921504606846976 ∧ ¬ (s[k].toNat = 0 ∧ 0 < k) := ⟨Nat.not_lt.1 hB, fun h => absurd h.2 (by omega)⟩
              rw [if_pos hpos] at hQ1
              clear hpos
              have HR := Lib.hid hQ1
              have jD : ¬ (1 : Int) < (k : Int) + 1 := by omega
              clear hQ hQ1 hval hgl hf hc hA hc2 hB hC hD
              go_wp2
              all_goals go_ret3
              all_goals exact ⟨by rw [HR.out]; first | (rw [HWH.out]; done) | (rw [HWH.out]; rfl) | rfl, rfl⟩
            · have hneg : ¬ (a' ≤ 1152921504606846976 ∧ ¬ (s[k].toNat = 0 ∧ 0 < k)) := fun h => h.2 ⟨by omega, by omega⟩
              rw [if_neg hneg] at hQ1
              clear hneg
              have HR := Lib.hid hQ1
              have jD : (1 : Int) < (k : Int) + 1 := by omega
              clear hQ hQ1 hval hgl hf hc hA hc2 hB hC hD
              go_wp2
              all_goals go_ret3
              all_goals exact ⟨by rw [HR.out]; first | (rw [HWH.out]; done) | (rw [HWH.out]; rfl) | rfl, rfl⟩
          · have jC : ((s[k].toNat : Int) == 0) = false := by simp; omega
            have hpos : a' ≤ 1152921504606846976 ∧ ¬ (s[k].toNat = 0 ∧ 0 < k) := ⟨Nat.not_lt.1 hB, fun h => absurd h.1 (by omega)⟩
            rw [if_pos hpos] at hQ1
            clear hpos
            have HR := Lib.hid hQ1
            clear hQ hQ1 hval hgl hf hc hA hc2 hB hC
            go_wp2
            all_goals go_ret3
            all_goals exact ⟨by rw [HR.out]; first | (rw [HWH.out]; done) | (rw [HWH.out]; rfl) | rfl, rfl⟩
    · obtain rfl : k = K := by omega
      have HR : Hid (Pk.lead s.data.toList = (0, 0, false)) := Lib.hid (by
        rw [hQ.out.1]
        by_cases h9 : k = 9
        · subst h9; rfl
        · exact Pk.from_end (by rw [list_len]; have := HK.out; omega))
      clear hQ
      go_wp2
      all_goals go_ret3
      all_goals exact ⟨by rw [HR.out]; first | rfl | rw [HWH.out]; rfl, rfl⟩
end Go.Proofs.Ytieipohbdogljaa
