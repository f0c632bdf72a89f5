/- PackNumbers, for every input. -/
import Derived.Test.YtieipohbdogljaaNumbers
import Derived.Test.YtieipohbdogljaaFrame
namespace Go.Proofs.Ytieipohbdogljaa
set_option linter.unusedVariables false
set_option linter.unusedSimpArgs false
open Go.RowKit
theorem law_numbers_c (n : Int) (s : ByteArray) (w : World) (hn : (Lit.int .i64 n).wf = true) (hs : s.size ≤ maxLen) : Calls Try.prog 3 #[.int .i64 n, .string s] w fun e w' => e = .returned (.bool true) ∧ Below w.heap.size w w' := by
  have hb := bounds_i64 hn
  obtain ⟨u, hu⟩ : ∃ u, u = s.extract 0 (min s.size 60001) := ⟨_, rfl⟩
  have hus : u.size ≤ 60001 := by rw [hu]; simp; omega
  have hum : u.size ≤ maxLen := by unfold maxLen; omega
  have hB := brief_any s w hs
  rw [← hu] at hB
  have hok := Pk.rfrom_ok u.data.toList 9 0
  have hbad := @Pk.lead_bad u.data.toList
  refine num_core w n ((Pk.sumV u.data.toList : Nat) : Int) ((Pk.lead u.data.toList).1 : Nat) ((Pk.lead u.data.toList).2.1 : Nat) (if (Pk.lead u.data.toList).2.2 then 0 else 31) ((Pk.rlead u.data.toList).1 : Nat) ((Pk.rlead u.data.toList).2.1 : Nat) (Pk.rlead u.data.toList).2.2 s u ⟨(Pk.enc n.toNat).toArray⟩ (by omega) (Lib.hid hB) (Lib.hid fun w => sum_any u w (by omega)) (Lib.hid fun w => rsum_any u w (by omega)) (Lib.hid fun h w => number_neg w n h) (Lib.hid fun h w => ?_) (Lib.hid fun h w => ?_) (Lib.hid fun w => readNumber_any u w hum) (Lib.hid fun w => rleading_any u w hum) ?_
  · have := number_any w n.toNat (by omega)
    rw [Int.toNat_of_nonneg h] at this
    exact this
  · have := rnumber_any w n.toNat (by omega)
    rw [Int.toNat_of_nonneg h] at this
    exact this
  · have e1 : (Pk.rlead u.data.toList).2.2 = (Pk.lead u.data.toList).2.2 := hok.1
    have e2 : (Pk.lead u.data.toList).2.2 = true → Pk.rlead u.data.toList = Pk.lead u.data.toList := hok.2
    refine ⟨fun h => ?_, fun h => ?_⟩
    · rw [e1] at h
      rw [e2 h, h]
      exact ⟨rfl, rfl, rfl⟩
    · rw [e1] at h
      rw [hbad h]
      exact ⟨rfl, rfl, rfl⟩
end Go.Proofs.Ytieipohbdogljaa
