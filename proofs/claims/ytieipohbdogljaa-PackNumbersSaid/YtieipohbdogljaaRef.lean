/- The document's own answers. -/
import Derived.Test.YtieipohbdogljaaNumber
namespace Go.Proofs.Ytieipohbdogljaa
set_option linter.unusedVariables false
set_option linter.unusedSimpArgs false
open Go.RowKit
set_option maxRecDepth 100000 in
set_option maxHeartbeats 1000000 in
theorem rsum_any (s : ByteArray) (w : World) (hs : s.size ≤ 1000000) : Calls Try.prog 8 #[.string s] w fun e w' => e = .returned (.int .i64 (Pk.sumV s.data.toList : Nat)) ∧ w = w' := by
  have HN : Hid (∀ k (h : k < s.size), Pk.sm (s.data.toList.take (k + 1)) = Pk.smStep (Pk.sm (s.data.toList.take k)) s[k]) := Lib.hid fun k h => by rw [take_next s k h, Pk.sm_snoc]
  have HE : Hid (Pk.sumV s.data.toList = (Pk.sm (s.data.toList.take s.size)).2 * 65536 + (Pk.sm (s.data.toList.take s.size)).1) := Lib.hid (by rw [take_all]; rfl)
  go_enter Try.func8, Try.ntmps8
  go_wp2
  go_loop [3, 4, 5] (fun x y i => ∃ k a b : Nat, k ≤ s.size ∧ i = .int .i64 (k : Int) ∧ x = .int .i64 (a : Int) ∧ y = .int .i64 (b : Int) ∧ a < 65521 ∧ b < 65521 ∧ Hid (Pk.sm (s.data.toList.take k) = (a, b))) (fun _ _ i => s.size - (intOf i).toNat)
  case atStart => exact ⟨0, 1, 0, Nat.zero_le _, rfl, rfl, rfl, by omega, by omega, Lib.hid rfl⟩
  case round =>
    obtain ⟨k, a, b, hk, rfl, rfl, rfl, ha, hb, hQ⟩ := hrel
    by_cases hlt : k < s.size
    · obtain ⟨c, hc⟩ : ∃ c : Nat, c = s[k].toNat := ⟨_, rfl⟩
      have hc2 : c < 256 := by rw [hc]; exact s[k].toNat_lt
      obtain ⟨a', ha'⟩ : ∃ z, z = (a + c) % 65521 := ⟨_, rfl⟩
      obtain ⟨b', hb'⟩ : ∃ z, z = (b + a') % 65521 := ⟨_, rfl⟩
      have la : a' < 65521 := by omega
      have lb : b' < 65521 := by omega
      have m1 : ((a : Int) + (c : Int)).tmod 65521 = (a' : Int) := by rw [Int.tmod_eq_emod_of_nonneg (by omega)]; omega
      have m2 : ((b : Int) + (a' : Int)).tmod 65521 = (b' : Int) := by rw [Int.tmod_eq_emod_of_nonneg (by omega)]; omega
      have hQ' : Hid (Pk.sm (s.data.toList.take (k + 1)) = (a', b')) := Lib.hid (by rw [HN.out k hlt, hQ.out]; simp only [Pk.smStep]; rw [← hc, ← ha', ← hb'])
      have HV : Hid ((wrap64 ((a : Int) + wrap64 (s[k].toNat : Int))).tmod 65521 = (a' : Int) ∧ (wrap64 ((b : Int) + (a' : Int))).tmod 65521 = (b' : Int)) := Lib.hid (by
        rw [← hc, IntWalk.wrap64_in (c : Int) (by omega), IntWalk.wrap64_in ((a : Int) + c) (by omega), IntWalk.wrap64_in ((b : Int) + a') (by omega)]
        exact ⟨m1, m2⟩)
      clear ha' hb' hc hQ m1 m2 hc2
      go_wp2
      go_round
      case rel => exact ⟨k + 1, a', b', by omega, rfl, by rw [HV.out.1], by rw [HV.out.1, HV.out.2], la, lb, hQ'⟩
      case measure => simp [intOf]; omega
    · obtain rfl : k = s.size := by omega
      have hv : Hid (Pk.sumV s.data.toList = b * 65536 + a) := Lib.hid (by rw [HE.out, hQ.out])
      clear hQ
      go_wp2
      go_ret
      exact ⟨by rw [hv.out]; simp, rfl⟩
set_option maxRecDepth 100000 in
theorem brief_any (s : ByteArray) (w : World) (hs : s.size ≤ maxLen) : Calls Try.prog 6 #[.string s] w fun e w' => e = .returned (.string (s.extract 0 (min s.size 60001))) ∧ w = w' := by
  unfold maxLen at hs
  obtain ⟨k, hk⟩ : ∃ k, k = min s.size 60001 := ⟨_, rfl⟩
  have e1 : min (s.size : Int) 60001 = (k : Int) := by omega
  have i1 : (if (60001 : Int) < (s.size : Int) then (60001 : Int) else (s.size : Int)) = (k : Int) := by split <;> omega
  have l1 : (k : Int) ≤ (s.size : Int) := by omega
  have l2 : k ≤ s.size := by omega
  have l3 : k ≤ 60001 := by omega
  have HK := Lib.hid hk
  clear hk
  go_enter Try.func6, Try.ntmps6
  go_wp2
  go_ret
  exact ⟨by rw [← HK.out]; rfl, rfl⟩
end Go.Proofs.Ytieipohbdogljaa
