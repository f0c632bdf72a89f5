/- PackSums. -/
import Derived.Test.YtieipohbdogljaaAwake
namespace Go.Proofs.Ytieipohbdogljaa
set_option linter.unusedVariables false
set_option linter.unusedSimpArgs false
open Go.RowKit
theorem cut_size (s : ByteArray) (k : Nat) (h : k ≤ s.size) : (s.extract 0 k).size = k := by simp; omega
theorem run_rem65 (p m : Nat) (hm : p % 65536 = m) (w : World) : (binOp .rem 3 (.int .i64 (p : Int)) (.int .i64 65536)).run Try.prog w = .ok (.int .i64 (m : Int)) w := by
  have h1 : (p : Int).tmod 65536 = (m : Int) := by
    rw [Int.tmod_eq_emod_of_nonneg (by omega)]; omega
  simp [binOp, Op.intDiv, h1, go_sem]
theorem run_quo65 (p m : Nat) (hp : p < 4294967296) (hm : p / 65536 = m) (w : World) : (binOp .quo 3 (.int .i64 (p : Int)) (.int .i64 65536)).run Try.prog w = .ok (.int .i64 (m : Int)) w := by
  have h1 : (p : Int).tdiv 65536 = (m : Int) := by
    rw [Int.tdiv_eq_ediv_of_nonneg (by omega)]; omega
  have h2 : IntKind.i64.wrap (m : Int) = (m : Int) := IntWalk.i64_in _ (by omega)
  simp [binOp, Op.intDiv, h1, h2, go_sem]
set_option maxRecDepth 100000 in
set_option maxHeartbeats 2000000 in
theorem law_sums (a b c : ByteArray) (w : World) (ha : a.size ≤ maxLen) (hb : b.size ≤ maxLen) (hc : c.size ≤ maxLen) : Calls Try.prog 5 #[.string a, .string b, .string c] w fun e w' => e = .returned (.bool true) ∧ Below w.heap.size w w' := by
  unfold maxLen at ha hb hc
  obtain ⟨ka, hka⟩ : ∃ k, k = min a.size 300 := ⟨_, rfl⟩
  obtain ⟨kb, hkb⟩ : ∃ k, k = min b.size 300 := ⟨_, rfl⟩
  obtain ⟨kc, hkc⟩ : ∃ k, k = min c.size 300 := ⟨_, rfl⟩
  have e1 : min (a.size : Int) 300 = (ka : Int) := by omega
  have e2 : min (b.size : Int) 300 = (kb : Int) := by omega
  have e3 : min (c.size : Int) 300 = (kc : Int) := by omega
  have l1 : (ka : Int) ≤ (a.size : Int) := by omega
  have l2 : (kb : Int) ≤ (b.size : Int) := by omega
  have l3 : (kc : Int) ≤ (c.size : Int) := by omega
  have s1 := cut_size a ka (by omega)
  have s2 := cut_size b kb (by omega)
  have s3 := cut_size c kc (by omega)
  have i1 : (if (300 : Int) < (a.size : Int) then (300 : Int) else (a.size : Int)) = (ka : Int) := by split <;> omega
  have i2 : (if (300 : Int) < (b.size : Int) then (300 : Int) else (b.size : Int)) = (kb : Int) := by split <;> omega
  have i3 : (if (300 : Int) < (c.size : Int) then (300 : Int) else (c.size : Int)) = (kc : Int) := by split <;> omega
  have CX := Lib.hid (fun w => sum_any (a.extract 0 ka) w (by omega))
  have CY := Lib.hid (fun w => sum_any (b.extract 0 kb) w (by omega))
  have CXZ := Lib.hid (fun w => sum_any (a.extract 0 ka ++ c.extract 0 kc) w (by rw [ByteArray.size_append]; omega))
  have CYZ := Lib.hid (fun w => sum_any (b.extract 0 kb ++ c.extract 0 kc) w (by rw [ByteArray.size_append]; omega))
  have AW := Lib.hid awake_any
  have HXZ : Hid (∀ S, S = Pk.sumV (a.extract 0 ka).data.toList → S = Pk.sumV (b.extract 0 kb).data.toList → Pk.sumV (a.extract 0 ka ++ c.extract 0 kc).data.toList = Pk.sumV (b.extract 0 kb ++ c.extract 0 kc).data.toList) := Lib.hid fun S h1 h2 => by
    have := Pk.sumV_append (h1.symm.trans h2) (c.extract 0 kc).data.toList
    simpa [ByteArray.data_append] using this
  have HX := Pk.sm_lt (a.extract 0 ka).data.toList
  have HSX : Pk.sumV (a.extract 0 ka).data.toList = (Pk.sm (a.extract 0 ka).data.toList).2 * 65536 + (Pk.sm (a.extract 0 ka).data.toList).1 := rfl
  have k1 : ka ≤ 300 := by omega
  have k2 : kb ≤ 300 := by omega
  have k3 : kc ≤ 300 := by omega
  obtain ⟨S, hS⟩ : ∃ S, S = Pk.sumV (a.extract 0 ka).data.toList := ⟨_, rfl⟩
  obtain ⟨T, hT⟩ : ∃ S, S = Pk.sumV (b.extract 0 kb).data.toList := ⟨_, rfl⟩
  have HTL : T < 65521 * 65536 + 65521 := by
    have := Pk.sm_lt (b.extract 0 kb).data.toList
    rw [hT]; unfold Pk.sumV; omega
  obtain ⟨lo, hlo⟩ : ∃ n, n = (Pk.sm (a.extract 0 ka).data.toList).1 := ⟨_, rfl⟩
  obtain ⟨hi, hhi⟩ : ∃ n, n = (Pk.sm (a.extract 0 ka).data.toList).2 := ⟨_, rfl⟩
  rw [← hlo, ← hhi] at HX HSX
  rw [← hS] at CX HSX
  rw [← hT] at CY
  have m1 := fun w => run_rem65 S lo (by omega) w
  have m2 := fun w => run_quo65 S hi (by omega) (by omega) w
  have q1 : lo < 65521 := HX.1
  have q2 : hi < 65521 := HX.2
  have q3 : S < 4294967296 := by omega
  have HHS := Lib.hid hS
  have HHT := Lib.hid hT
  have g1 : ¬ (S : Int) < 0 := by omega
  have g2 : ¬ (65521 : Int) ≤ (S : Int) % 65536 := by omega
  have g3 : ¬ (65521 : Int) ≤ (S : Int) / 65536 := by omega
  have g5 : (0 : Int) ≤ (S : Int) := by omega
  have g6 : (S : Int) < 4294967296 := by omega
  have g4 : ¬ (T : Int) < 0 := by omega
  have HST : Hid ((S : Int) = (T : Int) → S = T) := Lib.hid (fun h => by omega)
  clear hka hkb hkc hS hT hlo hhi HX HSX s1 s2 s3 HTL
  clear q1 q2 q3 ha hb hc
  clear m1 m2
  generalize (S : Int) = s' at CX g1 g2 g3 g5 g6 HST
  generalize (T : Int) = t' at CY g4 HST
  go_enter Try.func5, Try.ntmps5
  go_wp2_with fail
  go_quiet (fail)
  clear e1 e2 e3 i1 i2 i3
  go_wp2_with fail
  refine (CX.out _).mono ?_
  rintro e w1 ⟨rfl, rfl⟩
  go_wp2_with fail
  refine (CY.out _).mono ?_
  rintro e w1 ⟨rfl, rfl⟩
  by_cases hST : s' = t'
  · have hq := HXZ.out S HHS.out (by rw [HST.out hST]; exact HHT.out)
    rw [hq] at CXZ
    clear HXZ hq
    generalize ((Pk.sumV (b.extract 0 kb ++ c.extract 0 kc).data.toList : Nat) : Int) = q at CXZ CYZ
    have b1 : (s' != t') = false := by simp [hST]
    clear hST
    go_wp2_with fail
    refine (CXZ.out _).mono ?_
    rintro e w1 ⟨rfl, rfl⟩
    go_wp2_with fail
    refine (CYZ.out _).mono ?_
    rintro e w1 ⟨rfl, rfl⟩
    go_wp2_with fail
    refine (AW.out _).mono ?_
    rintro e w2 ⟨rfl, hbw⟩
    have HB : Hid (Below w.heap.size w w2) := Lib.hid ((below_drewN (Below.refl _ w) _).trans hbw)
    clear hbw
    go_wp2
    go_ret
    exact ⟨rfl, HB.out⟩
  · have b1 : (s' != t') = true := by simp; exact hST
    clear hST
    go_wp2_with fail
    refine (AW.out _).mono ?_
    rintro e w2 ⟨rfl, hbw⟩
    have HB : Hid (Below w.heap.size w w2) := Lib.hid ((below_drewN (Below.refl _ w) _).trans hbw)
    clear hbw
    go_wp2
    go_ret
    exact ⟨rfl, HB.out⟩
end Go.Proofs.Ytieipohbdogljaa
