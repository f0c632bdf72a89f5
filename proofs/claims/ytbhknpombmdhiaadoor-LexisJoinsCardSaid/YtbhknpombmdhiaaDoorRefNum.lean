/- What the document's own answers say of numerals, and where they end blanks and comments. -/
import Derived.Test.YtbhknpombmdhiaaDoorRefSign
import Derived.Test.YtbhknpombmdhiaaDoorSkip
namespace Go.Proofs.YtbhknpombmdhiaaDoor
open Go.RowKit

theorem ret_same {k : IntKind} {a b : Int} (h : a = b) : Value.int k a = .int k b := by rw [h]

set_option maxRecDepth 100000 in
set_option maxHeartbeats 2000000 in
theorem rIsNumeral_any (s : ByteArray) (w : World) (hs : s.size ≤ 9223372036854775807) :
    Calls Tryd.prog 56 #[.string s] w fun e w' => e = .returned (.bool (Lx.isNumeral s.data.toList)) ∧ w = w' := by
  have HL : Hid (s.data.toList.length = s.size) := Lib.hid (list_len s)
  have HT : Hid (∀ k (h : k < s.size), s.data.toList.take (k + 1) = s.data.toList.take k ++ [s[k]]) := Lib.hid fun k h => by
    rw [List.take_succ_eq_append_getElem (by rw [list_len]; exact h)]; rfl
  go_enter Tryd.func56, Tryd.ntmps56
  go_wp2
  go_loop [3, 4] (fun n i => ∃ k v : Nat, k ≤ s.size ∧ i = .int .i64 k ∧ n = .int .i64 v ∧ (v : Int) ≤ 1000000000000 ∧ Hid (v = Lx.val 0 (s.data.toList.take k) ∧ (∀ i (hi : i < s.data.toList.length), i < k → Lx.isDigit s.data.toList[i] = true) ∧ (∀ h : 0 < s.data.toList.length, 1 < k → s.data.toList[0].toNat ≠ 48))) (fun _ i => s.size - (intOf i).toNat)
  case atStart => exact ⟨0, 0, Nat.zero_le _, rfl, rfl, by decide, Lib.hid ⟨rfl, fun i _ h => absurd h (Nat.not_lt_zero _), fun _ h => absurd h (by decide)⟩⟩
  case round =>
    obtain ⟨k, v, hk, rfl, rfl, hv, hQ⟩ := hrel
    by_cases hlt : k < s.size
    · have hkl : k < s.data.toList.length := by rw [HL.out]; exact hlt
      have K1 := rdigit_any (s[k]'hlt)
      have hg : s.data.toList[k]'hkl = s[k]'hlt := rfl
      cases hd : Lx.isDigit (s[k]'hlt)
      · have hw : Hid (Lx.isNumeral s.data.toList = false) := Lib.hid (Lx.isNumeral_digit hkl (by rw [hg]; exact hd))
        rw [hd] at K1
        have KK1 := Lib.hid K1
        clear K1 hd hg hQ hkl
        go_wp2_with (first | (go_at_call 51; refine (KK1.out _).mono ?_; rintro e w' ⟨rfl, rfl⟩))
        go_ret
        exact ⟨ret_bool hw.out.symm, rfl⟩
      · have hdd : 48 ≤ (s[k]'hlt).toNat ∧ (s[k]'hlt).toNat ≤ 57 := by simpa [Lx.isDigit] using hd
        have hd1 : 48 ≤ ((s[k]'hlt).toNat : Int) := by omega
        have hd2 : ((s[k]'hlt).toNat : Int) ≤ 57 := by omega
        rw [hd] at K1
        have KK1 := Lib.hid K1
        have hh0 : 0 < s.size := by omega
        have hh1 : 0 < s.data.toList.length := by omega
        have hg0 : s.data.toList[0]'hh1 = s[0]'hh0 := rfl
        have hnew : Lx.val 0 (s.data.toList.take (k + 1)) = v * 10 + ((s[k]'hlt).toNat - 48) := by
          rw [HT.out k hlt, Lx.val_snoc, ← hQ.out.1]
        have hall : ∀ i (hi : i < s.data.toList.length), i < k + 1 → Lx.isDigit s.data.toList[i] = true := fun i hi hik => by
          by_cases e : i = k
          · subst e; rw [hg]; exact hd
          · exact hQ.out.2.1 i hi (by omega)
        have e1 : ((v * 10 + ((s[k]'hlt).toNat - 48) : Nat) : Int) = 10 * v + (((s[k]'hlt).toNat : Int) - 48) := by omega
        by_cases k1 : k = 1
        · have b1 : ((k : Int) == 1) = true := ibeq_t (by omega)
          by_cases hz : (s[0]'hh0).toNat = 48
          · have bz : (((s[0]'hh0).toNat : Int) == 48) = true := ibeq_t (by omega)
            have hw : Hid (Lx.isNumeral s.data.toList = false) := Lib.hid (Lx.isNumeral_zero (by omega) (by rw [hg0]; exact hz))
            clear K1 hd hg hQ hkl hnew hall e1 hg0 hdd hh1 hz k1
            go_wp2_with (first | (go_at_call 51; refine (KK1.out _).mono ?_; rintro e w' ⟨rfl, rfl⟩))
            go_ret
            exact ⟨ret_bool hw.out.symm, rfl⟩
          · have bz : (((s[0]'hh0).toNat : Int) == 48) = false := ibeq_f (by omega)
            have hQ' : Hid (v * 10 + ((s[k]'hlt).toNat - 48) = Lx.val 0 (s.data.toList.take (k + 1)) ∧ (∀ i (hi : i < s.data.toList.length), i < k + 1 → Lx.isDigit s.data.toList[i] = true) ∧ (∀ h : 0 < s.data.toList.length, 1 < k + 1 → s.data.toList[0].toNat ≠ 48)) := Lib.hid ⟨hnew.symm, hall, fun _ _ => by rw [hg0]; exact hz⟩
            have HN := Lib.hid hnew
            have E1 := Lib.hid e1
            by_cases hbig : (1000000000000 : Int) < 10 * v + (((s[k]'hlt).toNat : Int) - 48)
            · have hw : Hid (Lx.isNumeral s.data.toList = false) := Lib.hid (Lx.isNumeral_big (k := k + 1) (by rw [hnew]; omega))
              clear K1 hd hg hQ hkl hnew hall e1 hg0 hdd hh1 hz hQ' k1
              go_wp2_with (first | (go_at_call 51; refine (KK1.out _).mono ?_; rintro e w' ⟨rfl, rfl⟩))
              go_ret
              exact ⟨ret_bool hw.out.symm, rfl⟩
            · clear K1 hd hg hQ hkl hnew hall e1 hg0 hh1 hz k1
              go_wp2_with (first | (go_at_call 51; refine (KK1.out _).mono ?_; rintro e w' ⟨rfl, rfl⟩))
              go_round
              case rel => exact ⟨k + 1, v * 10 + ((s[k]'hlt).toNat - 48), by omega, by go_num, ret_same E1.out.symm, by omega, hQ'⟩
              case measure => simp [intOf]; omega
        · have b1 : ((k : Int) == 1) = false := ibeq_f (by omega)
          have hQ' : Hid (v * 10 + ((s[k]'hlt).toNat - 48) = Lx.val 0 (s.data.toList.take (k + 1)) ∧ (∀ i (hi : i < s.data.toList.length), i < k + 1 → Lx.isDigit s.data.toList[i] = true) ∧ (∀ h : 0 < s.data.toList.length, 1 < k + 1 → s.data.toList[0].toNat ≠ 48)) := Lib.hid ⟨hnew.symm, hall, fun h h1 => hQ.out.2.2 h (by omega)⟩
          have HN := Lib.hid hnew
          have E1 := Lib.hid e1
          by_cases hbig : (1000000000000 : Int) < 10 * v + (((s[k]'hlt).toNat : Int) - 48)
          · have hw : Hid (Lx.isNumeral s.data.toList = false) := Lib.hid (Lx.isNumeral_big (k := k + 1) (by rw [hnew]; omega))
            clear K1 hd hg hQ hkl hnew hall e1 hg0 hdd hh1 hQ' k1
            go_wp2_with (first | (go_at_call 51; refine (KK1.out _).mono ?_; rintro e w' ⟨rfl, rfl⟩))
            go_ret
            exact ⟨ret_bool hw.out.symm, rfl⟩
          · clear K1 hd hg hQ hkl hnew hall e1 hg0 hh1 k1
            go_wp2_with (first | (go_at_call 51; refine (KK1.out _).mono ?_; rintro e w' ⟨rfl, rfl⟩))
            go_round
            case rel => exact ⟨k + 1, v * 10 + ((s[k]'hlt).toNat - 48), by omega, by go_num, ret_same E1.out.symm, by omega, hQ'⟩
            case measure => simp [intOf]; omega
    · have hks : k = s.size := by omega
      obtain ⟨q1, q2, q3⟩ := hQ.out
      by_cases h0 : 0 < s.size
      · have e0 := isEmpty_f h0
        have e1 := toList_ne h0
        have hw : Hid (Lx.isNumeral s.data.toList = true) := Lib.hid (Lx.isNumeral_ok (by rw [HL.out]; exact h0) (fun i hi => q2 i hi (by have := HL.out; omega)) (fun h => q3 (by omega) (by have := HL.out; omega)) (by rw [List.take_of_length_le (by rw [HL.out]; omega)] at q1; omega))
        clear q1 q2 q3 hQ hks
        go_wp2
        go_ret
        exact ⟨ret_bool hw.out.symm, rfl⟩
      · have e0 : s.toList = [] := by rw [ByteArray.toList_eq, list_nil h0]
        have hw : Hid (Lx.isNumeral s.data.toList = false) := Lib.hid (by rw [list_nil h0]; rfl)
        clear q1 q2 q3 hQ hks
        go_wp2
        go_ret
        exact ⟨ret_bool hw.out.symm, rfl⟩

namespace Lx
theorem run_lf_step {s : List UInt8} {j : Nat} (hj : j < s.length) (h : ¬ s[j].toNat = 10) : j + run notLF (s.drop j) = j + 1 + run notLF (s.drop (j + 1)) := by
  rw [drop_at s j hj]
  simp [run, notLF, h]; omega
theorem run_lf_here {s : List UInt8} {j : Nat} (hj : j < s.length) (h : s[j].toNat = 10) : j + run notLF (s.drop j) = j := by
  rw [drop_at s j hj]
  simp [run, notLF, h]
theorem run_lf_end {s : List UInt8} {j : Nat} (hj : s.length ≤ j) : j + run notLF (s.drop j) = j := by
  rw [List.drop_of_length_le hj]; rfl
theorem blank_cases {c : UInt8} (h : isBlank c = true) : c.toNat = 9 ∨ c.toNat = 10 ∨ c.toNat = 13 ∨ c.toNat = 32 := by
  simp [isBlank] at h; omega
theorem blank_not {c : UInt8} (h : isBlank c = false) : ¬ c.toNat = 9 ∧ ¬ c.toNat = 10 ∧ ¬ c.toNat = 13 ∧ ¬ c.toNat = 32 := by
  simp [isBlank] at h; omega
end Lx

set_option maxRecDepth 100000 in
set_option maxHeartbeats 2000000 in
theorem rblank_any (s : ByteArray) (a : Nat) (w : World) (hs : s.size ≤ 9223372036854775807) (ha : a ≤ s.size) :
    Calls Tryd.prog 37 #[.string s, .int .i64 a] w fun e w' => e = .returned (.int .i64 (Lx.skipAt s.data.toList a : Nat)) ∧ w = w' := by
  have HL : Hid (s.data.toList.length = s.size) := Lib.hid (list_len s)
  go_enter Tryd.func37, Tryd.ntmps37
  go_wp2
  go_loop [1] (fun n => ∃ k : Nat, k ≤ s.size ∧ n = .int .i64 k ∧ Hid (Lx.skipAt s.data.toList a = Lx.skipAt s.data.toList k)) (fun n => s.size - (intOf n).toNat)
  case atStart => exact ⟨a, ha, rfl, Lib.hid rfl⟩
  case round =>
    obtain ⟨k, hk, rfl, hQ⟩ := hrel
    by_cases hlt : k < s.size
    · have hkl : k < s.data.toList.length := by rw [HL.out]; exact hlt
      have hg : s.data.toList[k]'hkl = s[k]'hlt := rfl
      by_cases h35 : (s[k]'hlt).toNat = 35
      · have b35 : (((s[k]'hlt).toNat : Int) == 35) = true := ibeq_t (by omega)
        have hQ1 : Hid (Lx.skipAt s.data.toList a = Lx.skipAt s.data.toList (k + Lx.run Lx.notLF (s.data.toList.drop k))) := Lib.hid (hQ.out.trans (Lx.skip_hash hkl (by rw [hg]; exact h35)))
        have H35 : Hid ((s[k]'hlt).toNat = 35) := Lib.hid h35
        clear h35 hg hQ hkl
        go_wp2
        go_loop [1] (fun n => ∃ j : Nat, k ≤ j ∧ j ≤ s.size ∧ n = .int .i64 j ∧ Hid (Lx.skipAt s.data.toList a = Lx.skipAt s.data.toList (j + Lx.run Lx.notLF (s.data.toList.drop j)))) (fun n => s.size - (intOf n).toNat)
        case atStart => exact ⟨k, Nat.le_refl _, hk, rfl, hQ1⟩
        case round =>
          obtain ⟨j, hkj, hj, rfl, hR⟩ := hrel
          by_cases hjl : j < s.size
          · have hjl' : j < s.data.toList.length := by rw [HL.out]; exact hjl
            have hgj : s.data.toList[j]'hjl' = s[j]'hjl := rfl
            by_cases h10 : (s[j]'hjl).toNat = 10
            · have b10 : (((s[j]'hjl).toNat : Int) == 10) = true := ibeq_t (by omega)
              have b11 : (((s[j]'hjl).toNat : Int) != 10) = false := by rw [bne, b10]; rfl
              have hne : k < j := by
                rcases Nat.lt_or_ge k j with h | h
                · exact h
                · exfalso
                  obtain rfl : j = k := by omega
                  have := H35.out; omega
              have hR' : Hid (Lx.skipAt s.data.toList a = Lx.skipAt s.data.toList j) := Lib.hid (by rw [hR.out, Lx.run_lf_here hjl' (by rw [hgj]; exact h10)])
              clear h10 hgj hjl' hR hQ1 b35
              go_wp2
              go_round
              case rel => exact ⟨j, hj, rfl, hR'⟩
              case measure => simp [intOf]; omega
            · have b10 : (((s[j]'hjl).toNat : Int) == 10) = false := ibeq_f (by omega)
              have b11 : (((s[j]'hjl).toNat : Int) != 10) = true := by rw [bne, b10]; rfl
              have hR' : Hid (Lx.skipAt s.data.toList a = Lx.skipAt s.data.toList (j + 1 + Lx.run Lx.notLF (s.data.toList.drop (j + 1)))) := Lib.hid (by rw [hR.out, Lx.run_lf_step hjl' (by rw [hgj]; exact h10)])
              clear h10 hgj hjl' hR hQ1 b35
              go_wp2
              go_round
              case rel => exact ⟨j + 1, by omega, by omega, by go_num, hR'⟩
              case measure => simp [intOf]; omega
          · have hR' : Hid (Lx.skipAt s.data.toList a = Lx.skipAt s.data.toList j) := Lib.hid (by rw [hR.out, Lx.run_lf_end (by rw [HL.out]; omega)])
            clear hR hQ1 b35
            go_wp2
            go_round
            case rel => exact ⟨j, hj, rfl, hR'⟩
            case measure => simp [intOf]; omega
      · have b35 : (((s[k]'hlt).toNat : Int) == 35) = false := ibeq_f (by omega)
        cases hb : Lx.isBlank (s[k]'hlt)
        · have hR : Hid (Lx.skipAt s.data.toList a = k) := Lib.hid (hQ.out.trans (Lx.skip_none hkl (by rw [hg]; exact hb) (by rw [hg]; exact h35)))
          obtain ⟨n1, n2, n3, n4⟩ := Lx.blank_not hb
          have b1 : (((s[k]'hlt).toNat : Int) == 9) = false := ibeq_f (by omega)
          have b2 : (((s[k]'hlt).toNat : Int) == 10) = false := ibeq_f (by omega)
          have b3 : (((s[k]'hlt).toNat : Int) == 13) = false := ibeq_f (by omega)
          have b4 : (((s[k]'hlt).toNat : Int) == 32) = false := ibeq_f (by omega)
          clear h35 hg hQ hkl hb n1 n2 n3 n4
          go_wp2
          go_ret
          exact ⟨ret_int (by rw [hR.out]), rfl⟩
        · have hR : Hid (Lx.skipAt s.data.toList a = Lx.skipAt s.data.toList (k + 1)) := Lib.hid (hQ.out.trans (Lx.skip_blank hkl (by rw [hg]; exact hb)))
          have hcs := Lx.blank_cases hb
          have B1 : Hid ((((s[k]'hlt).toNat : Int) == 9) = true ∨ (((s[k]'hlt).toNat : Int) == 9) = false ∧ ((((s[k]'hlt).toNat : Int) == 10) = true ∨ (((s[k]'hlt).toNat : Int) == 10) = false ∧ ((((s[k]'hlt).toNat : Int) == 13) = true ∨ (((s[k]'hlt).toNat : Int) == 13) = false ∧ (((s[k]'hlt).toNat : Int) == 32) = true))) := Lib.hid (by
            simp only [beq_iff_eq, beq_eq_false_iff_ne]; omega)
          clear h35 hg hQ hkl hb hcs
          rcases B1.out with b1 | ⟨b1, b2 | ⟨b2, b3 | ⟨b3, b4⟩⟩⟩
          all_goals
            go_wp2
            go_round
            case rel => exact ⟨k + 1, by omega, by go_num, hR⟩
            case measure => simp [intOf]; omega
    · have hR : Hid (Lx.skipAt s.data.toList a = k) := Lib.hid (hQ.out.trans (Lx.skip_end (by rw [HL.out]; omega)))
      clear hQ
      go_wp2
      go_ret
      exact ⟨ret_int (by rw [hR.out]), rfl⟩

end Go.Proofs.YtbhknpombmdhiaaDoor
