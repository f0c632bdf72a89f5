/- The document's own way to read a number. -/
import Derived.Test.YtieipohbdogljaaLead
namespace Go.Proofs.Ytieipohbdogljaa
set_option linter.unusedVariables false
set_option linter.unusedSimpArgs false
open Go.RowKit
namespace Pk
def rleadFrom (l : List UInt8) (k : Nat) : Nat → Nat × Nat × Bool
  | 0 => (0, 0, false)
  | f + 1 => match l[k]? with
    | none => (0, 0, false)
    | some c => if c.toNat < 128 then (val (l.take (k + 1)), k + 1, decide (val (l.take (k + 1)) ≤ 1152921504606846976 ∧ ¬ (c.toNat = 0 ∧ 0 < k))) else rleadFrom l (k + 1) f
def rlead (l : List UInt8) : Nat × Nat × Bool := rleadFrom l 0 9
theorem rfrom_next {l : List UInt8} {k f : Nat} {c : UInt8} (h : l[k]? = some c) (h2 : 128 ≤ c.toNat) : rleadFrom l k (f + 1) = rleadFrom l (k + 1) f := by
  rw [rleadFrom, h]; simp only; rw [if_neg (by omega)]
theorem rfrom_last {l : List UInt8} {k f : Nat} {c : UInt8} (h : l[k]? = some c) (h2 : c.toNat < 128) : rleadFrom l k (f + 1) = (val (l.take (k + 1)), k + 1, decide (val (l.take (k + 1)) ≤ 1152921504606846976 ∧ ¬ (c.toNat = 0 ∧ 0 < k))) := by
  rw [rleadFrom, h]; simp only; rw [if_pos h2]
theorem rfrom_end {l : List UInt8} {k f : Nat} (h : l.length ≤ k) : rleadFrom l k f = (0, 0, false) := by
  cases f with
  | zero => rfl
  | succ f => rw [rleadFrom, List.getElem?_eq_none h]
theorem rfrom_ok (l : List UInt8) : ∀ (f k : Nat), (rleadFrom l k f).2.2 = (leadFrom l k f).2.2 ∧ ((leadFrom l k f).2.2 = true → rleadFrom l k f = leadFrom l k f)
  | 0, k => ⟨rfl, fun _ => rfl⟩
  | f + 1, k => by
    rw [rleadFrom, leadFrom]
    cases hc : l[k]? with
    | none => exact ⟨rfl, fun _ => rfl⟩
    | some c =>
      simp only
      by_cases h1 : c.toNat < 128
      · rw [if_pos h1, if_pos h1]
        by_cases h2 : val (l.take (k + 1)) ≤ 1152921504606846976 ∧ ¬ (c.toNat = 0 ∧ 0 < k)
        · rw [if_pos h2, decide_eq_true h2]; exact ⟨rfl, fun _ => rfl⟩
        · rw [if_neg h2, decide_eq_false h2]; exact ⟨rfl, fun h => by cases h⟩
      · rw [if_neg h1, if_neg h1]
        exact rfrom_ok l f (k + 1)
end Pk
def rleadV (l : List UInt8) : Value := .tuple #[.int .i64 ((Pk.rlead l).1 : Nat), .int .i64 ((Pk.rlead l).2.1 : Nat), .bool (Pk.rlead l).2.2]
set_option maxRecDepth 100000 in
set_option maxHeartbeats 2000000 in
theorem rleading_any (s : ByteArray) (w : World) (hs : s.size ≤ maxLen) : Calls Try.prog 12 #[.string s] w fun e w' => e = .returned (rleadV s.data.toList) ∧ w = w' := by
  unfold maxLen at hs
  obtain ⟨K, hK⟩ : ∃ K, K = min s.size 9 := ⟨_, rfl⟩
  have k1 : K ≤ s.size := by omega
  have k2 : K ≤ 9 := by omega
  have HK := Lib.hid hK
  unfold rleadV
  clear hK
  go_enter Try.func12, Try.ntmps12
  go_wp2
  go_loop [5, 6, 7] (fun x t y => ∃ (k a : Nat) (tI : Int), k ≤ K ∧ y = .int .i64 (k : Int) ∧ x = .int .i64 (a : Int) ∧ t = .int .i64 tI ∧ Hid (tI = ((128 ^ (min k 8) : Nat) : Int) ∧ a < 128 ^ k ∧ Pk.rlead s.data.toList = Pk.rleadFrom s.data.toList k (9 - k) ∧ Pk.val (s.data.toList.take k) = a)) (fun _ _ y => K - (intOf y).toNat)
  case atStart => exact ⟨0, 0, 1, Nat.zero_le _, rfl, rfl, rfl, Lib.hid ⟨rfl, by simp, rfl, rfl⟩⟩
  case round =>
    obtain ⟨k, a, tI, hk, rfl, rfl, rfl, hQ⟩ := hrel
    by_cases hlt : k < K
    · have hls : k < s.size := by omega
      obtain ⟨htI, ha, hQ1, hQ2⟩ := hQ.out
      obtain ⟨c, hc⟩ : ∃ c : Nat, c = s[k].toNat := ⟨_, rfl⟩
      have hc2 : c < 256 := by rw [hc]; exact s[k].toNat_lt
      have h255 : (s[k].toNat : Int) ≤ 255 := by omega
      have j1 : (k : Int) < (s.size : Int) := by omega
      have j2 : (k : Int) < 9 := by omega
      have hmk : min k 8 = k := by omega
      rw [hmk] at htI
      have hple : 128 ^ k ≤ 128 ^ 8 := Nat.pow_le_pow_right (by omega) (by omega)
      obtain ⟨p, hp⟩ : ∃ p, p = 128 ^ k := ⟨_, rfl⟩
      have hp2 : 128 ^ (k + 1) = p * 128 := by rw [Nat.pow_succ, hp]
      rw [← hp] at htI ha hple
      have h8 : p ≤ 72057594037927936 := hple
      obtain ⟨x, hx⟩ : ∃ x, x = c % 128 * p := ⟨_, rfl⟩
      have hmul : x ≤ 127 * p := by rw [hx]; exact Nat.mul_le_mul_right _ (by omega)
      obtain ⟨a', ha'⟩ : ∃ z, z = a + x := ⟨_, rfl⟩
      have hlt' : a' < 128 ^ (k + 1) := by rw [hp2]; clear hp2 hp; omega
      have HW : Hid (wrap64 ((a : Int) + wrap64 ((s[k].toNat : Int) % 128 * tI)) = (a' : Int)) := Lib.hid (by
        have e : (s[k].toNat : Int) % 128 * tI = (x : Int) := by rw [← hc, htI, hx, Int.natCast_mul, Int.natCast_emod]; rfl
        clear hp2 hp hlt'
        rw [e, IntWalk.wrap64_in (x : Int) (by omega), IntWalk.wrap64_in ((a : Int) + (x : Int)) (by omega)]
        omega)
      have hgl := get_list s k hls
      have hval : Pk.val (s.data.toList.take (k + 1)) = a' := by
        rw [take_next s k hls, Pk.val_snoc, hQ2, List.length_take, list_len, Nat.min_eq_left (by omega), ← hc, ← hp, ← hx, ha']
      obtain ⟨f, hf⟩ : ∃ f, 9 - k = f + 1 := ⟨8 - k, by omega⟩
      rw [hf] at hQ1
      have HLT := Lib.hid hlt'
      have HT8 : Hid (k < 8 → wrap64 (tI * 128) = ((128 ^ (min (k + 1) 8) : Nat) : Int)) := Lib.hid fun h => by
        have h7 : p ≤ 562949953421312 := by rw [hp]; exact Nat.pow_le_pow_right (by omega) (by omega : k ≤ 7)
        rw [show min (k + 1) 8 = k + 1 by omega, hp2, htI]
        clear hp2 hp hlt'
        rw [show ((p : Int) * 128) = ((p * 128 : Nat) : Int) by omega]
        refine IntWalk.wrap64_in _ ?_
        omega
      have HT9 : Hid (k = 8 → tI = ((128 ^ (min (k + 1) 8) : Nat) : Int)) := Lib.hid fun h => by
        rw [show min (k + 1) 8 = k by omega, htI, hp]
      clear hple h8 hmul ha' hx hp2 hp hlt' ha htI hmk hQ2 hQ
      by_cases hA : 128 ≤ c
      · have jA : ¬ (s[k].toNat : Int) < 128 := by omega
        have hQ' : Pk.rlead s.data.toList = Pk.rleadFrom s.data.toList (k + 1) (9 - (k + 1)) ∧ Pk.val (s.data.toList.take (k + 1)) = a' := ⟨by
          rw [hQ1, Pk.rfrom_next hgl (by omega)]
          congr 1; omega, hval⟩
        have HQ' := Lib.hid hQ'
        clear hQ' hQ1 hval hgl hf hc hA hc2
        by_cases h8 : k < 8
        · have j8 : (k : Int) < 8 := by omega
          have HT := Lib.hid (HT8.out h8)
          clear h8
          go_wp2
          go_round
          case rel => exact ⟨k + 1, a', _, by omega, rfl, by rw [HW.out], rfl, Lib.hid ⟨HT.out, HLT.out, HQ'.out.1, HQ'.out.2⟩⟩
          case measure => simp [intOf]; omega
        · have j8 : ¬ (k : Int) < 8 := by omega
          have HT := Lib.hid (HT9.out (by omega))
          clear h8
          go_wp2
          go_round
          case rel => exact ⟨k + 1, a', _, by omega, rfl, by rw [HW.out], rfl, Lib.hid ⟨HT.out, HLT.out, HQ'.out.1, HQ'.out.2⟩⟩
          case measure => simp [intOf]; omega
      · have jA : (s[k].toNat : Int) < 128 := by omega
        rw [Pk.rfrom_last hgl (by omega), hval] at hQ1
        by_cases hC : c = 0
        · have jC : ¬ (0 : Int) < (s[k].toNat : Int) := by omega
          have HW0 : Hid (wrap64 ((a : Int) + wrap64 0) = (a' : Int)) := Lib.hid (by
            have h := HW.out
            rw [show (s[k].toNat : Int) = 0 by omega] at h
            rw [show (0 : Int) % 128 * tI = 0 by simp] at h
            exact h)
          by_cases hD : k = 0
          · have jD : ((k : Int) == 0) = true := by simp [hD]
            by_cases hB : a' ≤ 1152921504606846976
            · have jB : wrap64 ((a : Int) + wrap64 ((s[k].toNat : Int) % 128 * tI)) ≤ 1152921504606846976 := by rw [HW.out]; exact Int.ofNat_le.2 hB
              have hdec : decide (a' ≤ 1152921504606846976 ∧ ¬ (s[k].toNat = 0 ∧ 0 < k)) = true := decide_eq_true ⟨hB, fun h => absurd h.2 (by omega)⟩
              rw [hdec] at hQ1
              have HDB : Hid (decide ((a' : Int) ≤ 1152921504606846976) = true) := Lib.hid (decide_eq_true (Int.ofNat_le.2 hB))
              have HR := Lib.hid hQ1
              clear hdec hQ1 hval hgl hf hc hA hc2 hC hD hB
              go_wp2
              all_goals go_ret3
              all_goals exact ⟨by rw [HR.out]; first | (rw [HW0.out, HDB.out]; done) | (rw [HW0.out, HDB.out]; rfl) | (rw [HW0.out]; done) | (rw [HW0.out]; rfl), rfl⟩
            · have jB : ¬ wrap64 ((a : Int) + wrap64 ((s[k].toNat : Int) % 128 * tI)) ≤ 1152921504606846976 := by rw [HW.out]; exact fun h => hB (Int.ofNat_le.1 h)
              have hdec : decide (a' ≤ 1152921504606846976 ∧ ¬ (s[k].toNat = 0 ∧ 0 < k)) = false := decide_eq_false (fun h => hB h.1)
              rw [hdec] at hQ1
              have HDB : Hid (decide ((a' : Int) ≤ 1152921504606846976) = false) := Lib.hid (decide_eq_false (fun h => hB (Int.ofNat_le.1 h)))
              have HR := Lib.hid hQ1
              clear hdec hQ1 hval hgl hf hc hA hc2 hC hD hB
              go_wp2
              all_goals go_ret3
              all_goals exact ⟨by rw [HR.out]; first | (rw [HW0.out, HDB.out]; done) | (rw [HW0.out, HDB.out]; rfl) | (rw [HW0.out]; done) | (rw [HW0.out]; rfl), rfl⟩
          · have jD : ((k : Int) == 0) = false := by simp; omega
            have hdec : decide (a' ≤ 1152921504606846976 ∧ ¬ (s[k].toNat = 0 ∧ 0 < k)) = false := decide_eq_false (fun h => h.2 ⟨by omega, by omega⟩)
            rw [hdec] at hQ1
            have HR := Lib.hid hQ1
            clear hdec hQ1 hval hgl hf hc hA hc2 hC hD
            go_wp2
            all_goals go_ret3
            all_goals exact ⟨by rw [HR.out]; first | (rw [HW0.out, HDB.out]; done) | (rw [HW0.out, HDB.out]; rfl) | (rw [HW0.out]; done) | (rw [HW0.out]; rfl), rfl⟩
        · have jC : (0 : Int) < (s[k].toNat : Int) := by omega
          by_cases hB : a' ≤ 1152921504606846976
          · have jB : wrap64 ((a : Int) + wrap64 ((s[k].toNat : Int) % 128 * tI)) ≤ 1152921504606846976 := by rw [HW.out]; exact Int.ofNat_le.2 hB
            have hdec : decide (a' ≤ 1152921504606846976 ∧ ¬ (s[k].toNat = 0 ∧ 0 < k)) = true := decide_eq_true ⟨hB, fun h => absurd h.1 (by omega)⟩
            rw [hdec] at hQ1
            have HR := Lib.hid hQ1
            clear hdec hQ1 hval hgl hf hc hA hc2 hC hB
            go_wp2
            all_goals go_ret3
            all_goals exact ⟨by rw [HR.out]; first | (rw [HW.out]; done) | (rw [HW.out]; rfl) | rfl, rfl⟩
          · have jB : ¬ wrap64 ((a : Int) + wrap64 ((s[k].toNat : Int) % 128 * tI)) ≤ 1152921504606846976 := by rw [HW.out]; exact fun h => hB (Int.ofNat_le.1 h)
            have hdec : decide (a' ≤ 1152921504606846976 ∧ ¬ (s[k].toNat = 0 ∧ 0 < k)) = false := decide_eq_false (fun h => hB h.1)
            rw [hdec] at hQ1
            have HR := Lib.hid hQ1
            clear hdec hQ1 hval hgl hf hc hA hc2 hC hB
            go_wp2
            all_goals go_ret3
            all_goals exact ⟨by rw [HR.out]; first | (rw [HW.out]; done) | (rw [HW.out]; rfl) | rfl, rfl⟩
    · obtain rfl : k = K := by omega
      have HR : Hid (Pk.rlead s.data.toList = (0, 0, false)) := Lib.hid (by
        rw [hQ.out.2.2.1]
        by_cases h9 : k = 9
        · subst h9; rfl
        · exact Pk.rfrom_end (by rw [list_len]; have := HK.out; omega))
      have hor : ¬ ((k : Int) < (s.size : Int)) ∨ ¬ ((k : Int) < 9) := by have := HK.out; omega
      clear hQ
      rcases hor with ho | ho
      · go_wp2
        all_goals go_ret3
        all_goals exact ⟨by rw [HR.out]; rfl, rfl⟩
      · by_cases ho2 : (k : Int) < (s.size : Int)
        · go_wp2
          all_goals go_ret3
          all_goals exact ⟨by rw [HR.out]; rfl, rfl⟩
        · go_wp2
          all_goals go_ret3
          all_goals exact ⟨by rw [HR.out]; rfl, rfl⟩
end Go.Proofs.Ytieipohbdogljaa
