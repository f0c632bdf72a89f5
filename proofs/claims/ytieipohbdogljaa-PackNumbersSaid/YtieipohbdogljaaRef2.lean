/- The document's own answers: numbers. -/
import Derived.Test.YtieipohbdogljaaNumber
namespace Go.Proofs.Ytieipohbdogljaa
set_option linter.unusedVariables false
set_option linter.unusedSimpArgs false
open Go.RowKit
set_option maxRecDepth 100000 in
set_option maxHeartbeats 2000000 in
theorem rappN (w : World) (n : Nat) (hn : n ≤ 9223372036854775807) : Calls Try.prog 16 #[.slice none 0 0, .int .u64 (n : Int)] w (encPost w (Pk.enc n)) := by
  have hlen := Pk.enc_len_le 8 n (by omega)
  obtain ⟨i0, hi, hz0, hz1, hz2⟩ := info_parts info5
  have HI := Lib.hid hi; have HZ0 := Lib.hid hz0; have HZ1 := Lib.hid hz1; have HZ2 := Lib.hid hz2
  have hml : (1000 : Nat) ≤ maxLen := by decide
  obtain ⟨E, hE⟩ : ∃ E, E = Pk.enc n := ⟨_, rfl⟩
  have HE := Lib.hid hE
  rw [← hE] at hlen ⊢
  have HL := Lib.hid hlen
  unfold encPost
  clear hi hz0 hz1 hz2 hE hlen
  go_enter Try.func16, Try.ntmps16
  go_wp2_with fail
  go_loopw [0, 1] (fun v x wr => ∃ (m k : Nat) (p : Option Addr) (c : Nat) (L : List UInt8), m ≤ n ∧ x = .int .u64 (m : Int) ∧ v = .slice p k c ∧ k ≤ 9 ∧ Hid (wr.ownsRow w.heap.size 5 1 (.slice p k c) k (bts L) ∧ L ++ Pk.enc m = E ∧ L.length = k) ∧ Hid (Below w.heap.size w wr)) (fun _ x _ => (intOf x).toNat)
  case atStart => exact ⟨n, 0, none, 0, [], Nat.le_refl _, rfl, rfl, by omega, Lib.hid ⟨World.ownsRow_nil _ _ _ _, by rw [HE.out]; rfl, rfl⟩, Lib.hid (Below.refl _ _)⟩
  case round =>
    obtain ⟨m, k, p, c, L, hm, rfl, rfl, hk, HQ, HB⟩ := hrel
    have HROW := Lib.hid HQ.out.1
    have HSZ := Lib.hid HB.out.size
    have t1 : k + 1 ≤ maxLen := by omega
    by_cases hlt : 128 ≤ m
    · obtain ⟨r, hr⟩ : ∃ r, r = m % 128 := ⟨_, rfl⟩
      obtain ⟨q, hq⟩ : ∃ q, q = m / 128 := ⟨_, rfl⟩
      have hr2 : r < 128 := by omega
      have tm : (m : Int).tmod 128 = (r : Int) := by rw [Int.tmod_eq_emod_of_nonneg (by omega)]; omega
      have td : (m : Int).tdiv 128 = (q : Int) := by rw [Int.tdiv_eq_ediv_of_nonneg (by omega)]; omega
      have hqm : q < m := by omega
      have HQ2 : Hid ((L ++ [UInt8.ofNat (128 + r)]) ++ Pk.enc q = E ∧ (L ++ [UInt8.ofNat (128 + r)]).length = k + 1) := Lib.hid (by
        have h := HQ.out.2.1
        rw [Pk.enc_hi (by omega : ¬ m < 128), ← hr, ← hq] at h
        exact ⟨by rw [List.append_assoc]; exact h, by rw [List.length_append, HQ.out.2.2]; rfl⟩)
      have hk8 : k + 1 ≤ 9 := by
        have h := congrArg List.length HQ2.out.1
        rw [List.length_append, HQ2.out.2] at h
        have := HL.out
        omega
      have hb8 : IntKind.u8.wrap ((128 : Int) + (r : Int)) = ((128 + r : Nat) : Int) := by unfold IntKind.wrap; simp [IntKind.bits, IntKind.signed]; omega
      have hnat : (UInt8.ofNat (128 + r)).toNat = 128 + r := Pk.lo_nat (by omega)
      have HN := Lib.hid hnat
      have j1 : (128 : Int) ≤ (m : Int) := by omega
      clear hr hq hnat HQ
      have HROW' := HROW
      go_wp2_with (at_builtin; refine wpList_append_own_at _ (by rfl) (.tmp 7) (.tmp 12) 37 (by rfl) w.heap.size 5 i0 (.int .u8 0) 1 1 Try.underlying37 HI.out HZ0.out HZ1.out HZ2.out (by rfl) (by decide) (.slice p k c) k _ (by rfl) (HROW.out.alloc _) ⟨wr.heap.size, 0, none⟩ 1 1 [.int .u8 (128 + (r : Int))] (by rfl) (by rfl) (cell_one_new _ _ _) (by simp [Value.oneCell']) t1 (by omega) (by have := HSZ.out; simp; omega) ?_)
      intro v5 w5 hown5 hG5 _ hat5
      obtain ⟨g5, cp5, rfl⟩ := ownsRow_succ hown5
      have HQ5 : Hid (w5.ownsRow w.heap.size 5 1 (.slice (some ⟨g5, 0, none⟩) (k + 1) cp5) (k + 1) (bts (L ++ [UInt8.ofNat (128 + r)])) ∧ (L ++ [UInt8.ofNat (128 + r)]) ++ Pk.enc q = E ∧ (L ++ [UInt8.ofNat (128 + r)]).length = k + 1) := Lib.hid ⟨by
        rw [← bts_snoc, HN.out]
        have e : ((128 + r : Nat) : Int) = 128 + (r : Int) := by omega
        rw [e]
        exact hown5, HQ2.out.1, HQ2.out.2⟩
      have HB5 : Hid (Below w.heap.size w w5) := Lib.hid ((HB.out.trans ((one wr _).mono HSZ.out)).grown hG5 (Nat.le_trans HSZ.out (one wr _).size) (fun b e => (HROW.out.lt b e).1))
      clear hown5 hG5 hat5 HQ2
      go_wp2_with fail
      exact ⟨⟨q, k + 1, _, _, _, by omega, rfl, rfl, hk8, HQ5, HB5⟩, by simp [intOf]; omega⟩
    · have hm128 : m < 128 := by omega
      have hb8 : IntKind.u8.wrap (m : Int) = (m : Int) := by unfold IntKind.wrap; simp [IntKind.bits, IntKind.signed]; omega
      have hnat : (UInt8.ofNat m).toNat = m := Pk.lo_nat (by omega)
      have HN := Lib.hid hnat
      have HF : Hid (L ++ [UInt8.ofNat m] = E) := Lib.hid (by have h := HQ.out.2.1; rw [Pk.enc_lo hm128] at h; exact h)
      have HK := Lib.hid HQ.out.2.2
      clear hnat HQ
      go_wp2_with (at_builtin; refine wpList_append_own_at _ (by rfl) (.tmp 16) (.tmp 19) 37 (by rfl) w.heap.size 5 i0 (.int .u8 0) 1 1 Try.underlying37 HI.out HZ0.out HZ1.out HZ2.out (by rfl) (by decide) (.slice p k c) k _ (by rfl) (HROW.out.alloc _) ⟨wr.heap.size, 0, none⟩ 1 1 [.int .u8 (m : Int)] (by rfl) (by rfl) (cell_one_new _ _ _) (by simp [Value.oneCell']) t1 (by omega) (by have := HSZ.out; simp; omega) ?_)
      intro v5 w5 hown5 hG5 _ hat5
      have HQ5 : Hid (w5.ownsRow w.heap.size 5 1 v5 E.length (bts E) ∧ Below w.heap.size w w5) := Lib.hid ⟨by
        rw [← HF.out, ← bts_snoc, HN.out, List.length_append, HK.out]
        exact hown5, (HB.out.trans ((one wr _).mono HSZ.out)).grown hG5 (Nat.le_trans HSZ.out (one wr _).size) (fun b e => (HROW.out.lt b e).1)⟩
      clear hown5 hG5 hat5
      go_wp2
      go_ret
      exact ⟨v5, rfl, HQ5.out.1, HQ5.out.2⟩
end Go.Proofs.Ytieipohbdogljaa
