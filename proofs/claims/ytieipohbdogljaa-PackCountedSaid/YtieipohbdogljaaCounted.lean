/- PackCounted. -/
import Derived.Test.YtieipohbdogljaaAwake
import Derived.OpenShut
namespace Go.Proofs.Ytieipohbdogljaa
set_option linter.unusedVariables false
set_option linter.unusedSimpArgs false
open Go.RowKit
def modV (x : Int) : Int := (IntKind.u64.wrap x).tmod 1152921504606846977
theorem modV_in (x : Int) : 0 ≤ modV x ∧ modV x ≤ 1152921504606846976 := by
  have hu : 0 ≤ IntKind.u64.wrap x := by
    have h := wf_wrap .u64 x
    exact (bounds_u64 h).1
  have hm := Int.tmod_nonneg 1152921504606846977 hu
  have hm2 : (IntKind.u64.wrap x).tmod 1152921504606846977 < 1152921504606846977 := Int.tmod_lt_of_pos _ (by omega)
  unfold modV
  omega
set_option maxRecDepth 100000 in
set_option maxHeartbeats 1000000 in
theorem mod_any (x : Int) (w : World) : Calls Try.prog 14 #[.int .i64 x, .int .i64 1152921504606846977] w fun e w' => e = .returned (.int .i64 (modV x)) ∧ w = w' := by
  have hb := modV_in x
  have he : wrap64 ((IntKind.u64.wrap x).tmod 1152921504606846977) = modV x := IntWalk.wrap64_in (modV x) (by omega)
  have HE := Lib.hid he
  clear he hb
  go_enter Try.func14, Try.ntmps14
  go_wp2
  go_ret
  exact ⟨congrArg (fun z => Ending.returned (Value.int .i64 z)) HE.out, rfl⟩
set_option maxRecDepth 100000 in
set_option maxHeartbeats 4000000 in
theorem cnt_core (w : World) (x n : Int) (s S T : ByteArray) (m : Nat) (h0 : 0 ≤ n) (h1 : n ≤ 1152921504606846976) (hs : s.size ≤ maxLen)
    (z1 : S.size = m + 1) (z2 : m + 1 ≤ 9) (z3 : m + 1 ≤ T.size) (z4 : T.size ≤ 100)
    (BY : Hid (∀ i (h : i < S.size), if i = m then (S[i].toNat : Int) < 128 else ¬ (S[i].toNat : Int) < 128))
    (MO : Hid (Calls Try.prog 14 #[.int .i64 x, .int .i64 1152921504606846977] w fun e w' => e = .returned (.int .i64 n) ∧ w = w'))
    (N1 : Hid (∀ w, Calls Try.prog 9 #[.int .i64 n] w fun e w' => e = .returned (.tuple #[.string S, .int .i64 0]) ∧ Below w.heap.size w w'))
    (N2 : Hid (∀ w, Calls Try.prog 9 #[.int .i64 (n + 1)] w fun e w' => e = .returned (.tuple #[.string T, .int .i64 0]) ∧ Below w.heap.size w w'))
    (R1 : Hid (∀ w k, k ≤ s.size → k ≤ 10 → Calls Try.prog 11 #[.string (S ++ s.extract 0 k)] w fun e w' => e = .returned (.tuple #[.int .i64 n, .int .i64 ((m : Int) + 1), .int .i64 0]) ∧ w = w'))
    (R2 : Hid (∀ w, Calls Try.prog 11 #[.string (S.extract 0 m)] w fun e w' => e = .returned (.tuple #[.int .i64 0, .int .i64 0, .int .i64 31]) ∧ w = w')) :
    Calls Try.prog 4 #[.int .i64 x, .string s] w fun e w' => e = .returned (.bool true) ∧ Below w.heap.size w w' := by
  unfold maxLen at hs
  obtain ⟨k, hk⟩ : ∃ k, k = min s.size 10 := ⟨_, rfl⟩
  have e1 : min (s.size : Int) 10 = (k : Int) := by omega
  have i1 : (if (10 : Int) < (s.size : Int) then (10 : Int) else (s.size : Int)) = (k : Int) := by split <;> omega
  have l1 : (k : Int) ≤ (s.size : Int) := by omega
  have l2 : k ≤ s.size := by omega
  have l3 : k ≤ 10 := by omega
  have AW := Lib.hid awake_any
  have Z1 := Lib.hid z1
  have y1 : ((S.size : Nat) : Int) = (m : Int) + 1 := by omega
  have y3 : ¬ ((T.size : Nat) : Int) < (m : Int) + 1 := by omega
  have HL := Lib.hid l2
  have HL3 := Lib.hid l3
  clear hk
  go_enter Try.func4, Try.ntmps4
  go_wp2_with fail
  refine MO.out.mono ?_
  rintro e w1 ⟨rfl, rfl⟩
  go_wp2_with fail
  refine (N1.out _).mono ?_
  rintro e w1 ⟨rfl, hb⟩
  have HB := Lib.hid hb
  clear hb MO N1
  go_wp2_with fail
  refine (N2.out _).mono ?_
  rintro e w2 ⟨rfl, hb⟩
  have HB2 := Lib.hid (HB.out.trans (hb.mono HB.out.size))
  clear hb N2 HB
  go_wp2_with fail
  go_loopw [9] (fun i wr => ∃ j : Nat, j ≤ m + 1 ∧ i = .int .i64 (j : Int) ∧ wr = w2) (fun i _ => m + 1 - (intOf i).toNat)
  case atStart => exact ⟨0, by omega, rfl, rfl⟩
  case round =>
    obtain ⟨j, hj, rfl, rfl⟩ := hrel
    by_cases hlt : j < m + 1
    · have hjs : j < S.size := by omega
      have hb := BY.out j hjs
      by_cases hm : j = m
      · rw [if_pos hm] at hb
        have q1 : ((j : Int) == (m : Int)) = true := by simp [hm]
        clear hm
        go_wp2_with fail
        all_goals exact ⟨⟨j + 1, by omega, by go_num, by trivial⟩, by simp [intOf]; omega⟩
      · rw [if_neg hm] at hb
        have q1 : ((j : Int) == (m : Int)) = false := by simp; omega
        clear hm
        go_wp2_with fail
        all_goals exact ⟨⟨j + 1, by omega, by go_num, by trivial⟩, by simp [intOf]; omega⟩
    · obtain rfl : j = m + 1 := by omega
      go_wp2_with fail
      refine (R1.out _ k HL.out HL3.out).mono ?_
      rintro e w3 ⟨rfl, rfl⟩
      go_wp2_with fail
      refine (R2.out _).mono ?_
      rintro e w3 ⟨rfl, rfl⟩
      go_wp2_with fail
      refine (AW.out _).mono ?_
      rintro e w4 ⟨rfl, hbw⟩
      have HB4 := Lib.hid (HB2.out.trans (hbw.mono HB2.out.size))
      clear hbw
      go_wp2
      go_ret
      exact ⟨rfl, HB4.out⟩
theorem law_counted_c (x : Int) (s : ByteArray) (w : World) (hx : (Lit.int .i64 x).wf = true) (hs : s.size ≤ maxLen) : Calls Try.prog 4 #[.int .i64 x, .string s] w fun e w' => e = .returned (.bool true) ∧ Below w.heap.size w w' := by
  obtain ⟨b1, b2⟩ := modV_in x
  obtain ⟨N, hN⟩ := Int.eq_ofNat_of_zero_le b1
  have hN2 : N ≤ 1152921504606846976 := by omega
  obtain ⟨p, c, e, f1, f2, f3, f4⟩ := Pk.enc_form N
  have hlen := Pk.enc_len_le 8 N (by omega)
  have hlen2 := Pk.enc_len_le 8 (N + 1) (by omega)
  have hmo := Pk.enc_mono N (N + 1) (by omega)
  have hl : (Pk.enc N).length = p.length + 1 := by rw [e]; simp
  have hS : (ByteArray.mk (Pk.enc N).toArray).size = p.length + 1 := by rw [← hl]; rfl
  have hT : (ByteArray.mk (Pk.enc (N + 1)).toArray).size = (Pk.enc (N + 1)).length := rfl
  refine cnt_core w x (modV x) s ⟨(Pk.enc N).toArray⟩ ⟨(Pk.enc (N + 1)).toArray⟩ p.length b1 b2 hs hS (by omega) (by rw [hT]; omega) (by rw [hT]; omega) (Lib.hid fun i h => ?_) (Lib.hid (mod_any x w)) (Lib.hid fun w => ?_) (Lib.hid fun w => ?_) (Lib.hid fun w k hk1 hk2 => ?_) (Lib.hid fun w => ?_)
  · have hi : i < (Pk.enc N).length := by rw [hl, ← hS]; exact h
    have hg : (ByteArray.mk (Pk.enc N).toArray)[i] = (Pk.enc N)[i] := rfl
    rw [hg]
    have hg2 : (Pk.enc N)[i] = (p ++ [c])[i]'(by rw [← e]; exact hi) := by simp only [e]
    rw [hg2]
    split
    · rename_i hm
      subst hm
      simp
      omega
    · rename_i hm
      have hip : i < p.length := by omega
      rw [List.getElem_append_left hip]
      have := f1 _ (List.getElem_mem hip)
      omega
  · rw [hN]; exact number_any w N (by omega)
  · have := number_any w (N + 1) (by omega)
    rw [hN]
    exact this
  · unfold maxLen at hs
    have hsz : (ByteArray.mk (Pk.enc N).toArray ++ s.extract 0 k).size ≤ maxLen := by
      rw [ByteArray.size_append, hS]; simp [maxLen]; omega
    have h := readNumber_any (⟨(Pk.enc N).toArray⟩ ++ s.extract 0 k) w hsz
    have he : (ByteArray.mk (Pk.enc N).toArray ++ s.extract 0 k).data.toList = Pk.enc N ++ (s.extract 0 k).data.toList := by simp [ByteArray.data_append]
    rw [he, Pk.lead_enc N hN2, hl] at h
    rw [hN]
    exact h
  · have hsz : ((ByteArray.mk (Pk.enc N).toArray).extract 0 p.length).size ≤ maxLen := by simp [maxLen]; omega
    have h := readNumber_any ((ByteArray.mk (Pk.enc N).toArray).extract 0 p.length) w hsz
    have he : ((ByteArray.mk (Pk.enc N).toArray).extract 0 p.length).data.toList = (Pk.enc N).dropLast := by
      rw [List.dropLast_eq_take, hl]
      simp [ByteArray.data_extract]
    rw [he, Pk.lead_cut] at h
    exact h
end Go.Proofs.Ytieipohbdogljaa
