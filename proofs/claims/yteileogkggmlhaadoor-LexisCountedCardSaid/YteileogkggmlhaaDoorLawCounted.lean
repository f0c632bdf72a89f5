/- The statement LexisCounted: it returns true for every string and int. -/
import Derived.Test.YteileogkggmlhaaDoorLawPlaces
import Derived.IntWalk
import Derived.OpenShut
namespace Go.Proofs.YteileogkggmlhaaDoor
open Go.RowKit

namespace Lx
theorem col_begin : ∀ (n : Nat) (l : List UInt8), l.length = n → (0 < l.length + 1 - col l → (l[l.length + 1 - col l - 1]?.map (·.toNat)) = some 10) ∧ (∀ i (h : i < l.length), l.length + 1 - col l ≤ i → ¬ l[i].toNat = 10)
  | 0, l, hl => by
    have e := List.eq_nil_of_length_eq_zero hl
    subst e
    exact ⟨fun h => by simp [col] at h, fun i h => by simp at h⟩
  | n + 1, l, hl => by
    have hne : l ≠ [] := by intro e; rw [e] at hl; simp at hl
    obtain ⟨r, c, rfl⟩ : ∃ r c, l = r ++ [c] := ⟨_, _, (List.dropLast_concat_getLast hne).symm⟩
    have hr : r.length = n := by simpa using hl
    have hcl := col_le r
    obtain ⟨i1, i2⟩ := col_begin n r hr
    rw [col_snoc]
    by_cases hc : c.toNat = 10
    · rw [if_pos hc]
      refine ⟨fun _ => by simp [hc], fun i h hi => ?_⟩
      simp at h hi; omega
    · rw [if_neg hc]
      have e1 : (r ++ [c]).length + 1 - (col r + 1) = r.length + 1 - col r := by simp
      rw [e1]
      refine ⟨fun h => ?_, fun i h hi => ?_⟩
      · have := i1 h
        rw [List.getElem?_append_left (by omega)]
        exact this
      · by_cases e : i < r.length
        · rw [List.getElem_append_left e]
          exact i2 i e hi
        · have : i = r.length := by simp at h; omega
          subst this
          simpa using hc
end Lx

theorem begin_facts (t : ByteArray) (k b : Nat) (hk : k ≤ t.size) (hb : b = k + 1 - Lx.col (t.data.toList.take k)) :
    (0 < b → ∀ h : b - 1 < t.size, t[b - 1].toNat = 10) ∧ (∀ i (h : i < t.size), i < k → b ≤ i → ¬ t[i].toNat = 10) := by
  have hlen : (t.data.toList.take k).length = k := by rw [List.length_take, list_len]; omega
  have hcl := Lx.col_le (t.data.toList.take k)
  obtain ⟨i1, i2⟩ := Lx.col_begin k _ hlen
  simp only [hlen] at i1 i2 hcl
  rw [← hb] at i1 i2
  refine ⟨fun h0 h => ?_, fun i h hi hbi => ?_⟩
  · have := i1 h0
    rw [List.getElem?_take_of_lt (by omega), List.getElem?_eq_getElem (by rw [list_len]; exact h)] at this
    exact Option.some.inj this
  · have := i2 i (by omega) hbi
    rw [List.getElem_take] at this
    exact this

set_option maxRecDepth 100000 in
set_option maxHeartbeats 1000000 in
theorem mod_any (x : Int) (m : Nat) (w : World) (h2 : m ≤ 4001) :
    Calls Tryd.prog 34 #[.int .i64 x, .int .i64 ((m : Int) + 1)] w fun e w' => (∃ k : Nat, k ≤ m ∧ e = .returned (.int .i64 k)) ∧ w = w' := by
  have hu : 0 ≤ IntKind.u64.wrap x := by
    have h := wf_wrap .u64 x
    exact (bounds_u64 h).1
  have hm := Int.tmod_nonneg ((m : Int) + 1) hu
  have hm2 : (IntKind.u64.wrap x).tmod ((m : Int) + 1) < (m : Int) + 1 := Int.tmod_lt_of_pos _ (by omega)
  have he : wrap64 ((IntKind.u64.wrap x).tmod ((m : Int) + 1)) = (IntKind.u64.wrap x).tmod ((m : Int) + 1) := IntWalk.wrap64_in _ (by omega)
  obtain ⟨k, hk⟩ := Int.eq_ofNat_of_zero_le hm
  have HE := Lib.hid he
  have HK := Lib.hid hk
  have HM2 := Lib.hid hm2
  clear hu hm hm2 he hk
  go_enter Tryd.func34, Tryd.ntmps34
  go_wp2
  go_ret
  refine ⟨⟨k, by have := HM2.out; rw [HK.out] at this; omega, ?_⟩, rfl⟩
  exact ret_int (by rw [HE.out, HK.out])

set_option maxRecDepth 100000 in
set_option maxHeartbeats 3000000 in
theorem law_counted (s : ByteArray) (x : Int) (w : World) (ws : s.size ≤ maxLen) (_wx : (Lit.int .i64 x).wf = true) (henv : Env w) :
    Calls Tryd.prog 12 #[.string s, .int .i64 x] w fun e w' => e = .returned (.bool true) ∧ Below w.heap.size w w' := by
  unfold maxLen at ws
  obtain ⟨m, hm⟩ : ∃ m : Nat, m = min s.size 4000 := ⟨_, rfl⟩
  have hmi : min (s.size : Int) 4000 = (m : Int) := by omega
  have hts : (s.extract 0 m).size = m := take_size s m (by omega)
  have hm4 : m ≤ 4000 := by omega
  have hms : m ≤ s.size := by omega
  have hM := fun w => mod_any x m w (by omega)
  have hP := fun k w (hk : k ≤ m) => place_any (s.extract 0 m) k w (by omega) (by omega)
  have HMI := Lib.hid hmi
  have HM := Lib.hid hM
  have HP := Lib.hid hP
  have HE := Lib.hid henv
  have HTS := Lib.hid hts
  clear hM hP henv hm hts
  go_enter Tryd.func12, Tryd.ntmps12
  go_wp2_with fail
  refine (HM.out _).mono ?_
  rintro e w' ⟨⟨k, hk, rfl⟩, hw⟩
  obtain rfl : w = w' := hw
  have hP := HP.out k w hk
  have hcl := Lx.col_le ((s.extract 0 m).data.toList.take k)
  have hfl := Lx.feeds_le ((s.extract 0 m).data.toList.take k)
  have hlen : ((s.extract 0 m).data.toList.take k).length = k := by rw [List.length_take, list_len, HTS.out]; omega
  rw [hlen] at hcl hfl
  obtain ⟨b, hb⟩ : ∃ b : Nat, b = k + 1 - Lx.col ((s.extract 0 m).data.toList.take k) := ⟨_, rfl⟩
  have hsz : k ≤ (s.extract 0 m).size := by rw [HTS.out]; exact hk
  have HBF := Lib.hid (begin_facts (s.extract 0 m) k b hsz hb)
  have HT : Hid (∀ j (h : j < (s.extract 0 m).size), Lx.feeds ((s.extract 0 m).data.toList.take (j + 1)) = Lx.feeds ((s.extract 0 m).data.toList.take j) + if (s.extract 0 m)[j].toNat = 10 then 1 else 0) := Lib.hid fun j h => by
    rw [List.take_succ_eq_append_getElem (by rw [list_len]; exact h), Lx.feeds_snoc]; rfl
  generalize hnc : Lx.col ((s.extract 0 m).data.toList.take k) = nc at *
  have hbk : (k : Int) - nc + 1 = (b : Int) := by omega
  have hbk1 : b ≤ k := by omega
  have hnc1 : 1 ≤ nc := by omega
  have hnc2 : nc ≤ k + 1 := by omega
  generalize hnf : Lx.feeds ((s.extract 0 m).data.toList.take k) = nf at *
  have HNF := Lib.hid hnf
  have HPP := Lib.hid hP
  have HBK := Lib.hid hbk
  clear hP hnf hnc HP HM hlen hb hcl hbk
  go_wp2_with fail
  refine HPP.out.mono ?_
  rintro e w1 ⟨rfl, hb1⟩
  have HB1 := Lib.hid hb1
  clear hb1
  by_cases hbp : nc ≤ k
  · have hkn : k - nc < (s.extract 0 m).size := by omega
    have hkm : (k : Int) - nc < m := by omega
    have hg : (s.extract 0 m)[k - nc].toNat = 10 := by
      have h1 := HBK.out
      have h2 := HBF.out.1 (by omega)
      have e : b - 1 = k - nc := by omega
      simp only [e] at h2
      exact h2 hkn
    have g1 : (((s.extract 0 m)[k - nc].toNat : Int) == 10) = true := ibeq_t (by omega)
    have g2 : (((s.extract 0 m)[k - nc].toNat : Int) != 10) = false := by rw [bne, g1]; rfl
    clear hg
    go_wp2_with fail
    go_loop [10, 11] (fun l i => ∃ j nl : Nat, j ≤ k ∧ i = .int .i64 j ∧ l = .int .i64 nl ∧ nl ≤ 1 + j ∧ Hid (nl = 1 + Lx.feeds ((s.extract 0 m).data.toList.take j))) (fun _ i => k - (intOf i).toNat)
    case atStart => exact ⟨0, 1, Nat.zero_le _, rfl, rfl, by omega, Lib.hid (by simp [Lx.feeds])⟩
    case round =>
      obtain ⟨j, nl, hj, rfl, rfl, h1, hQ⟩ := hrel
      by_cases hlt : j < k
      · have hjs : j < (s.extract 0 m).size := by omega
        have hjm : j < m := by omega
        have e := HT.out j hjs
        by_cases h10 : (s.extract 0 m)[j].toNat = 10
        · have b1 : (((s.extract 0 m)[j].toNat : Int) == 10) = true := ibeq_t (by omega)
          have hjb : (j : Int) < (k : Int) - nc + 1 := by
            have h1 := HBK.out
            by_cases hb : b ≤ j
            · exact absurd h10 (HBF.out.2 j hjs hlt hb)
            · omega
          have hQ' : Hid (nl + 1 = 1 + Lx.feeds ((s.extract 0 m).data.toList.take (j + 1))) := Lib.hid (by
            rw [e, if_pos h10]; have := hQ.out; omega)
          clear h10 e hQ
          go_wp2
          go_round
          case rel => exact ⟨j + 1, nl + 1, by omega, by go_num, by go_num, by omega, hQ'⟩
          case measure => simp [intOf]; omega
        · have b1 : (((s.extract 0 m)[j].toNat : Int) == 10) = false := ibeq_f (by omega)
          have hQ' : Hid (nl = 1 + Lx.feeds ((s.extract 0 m).data.toList.take (j + 1))) := Lib.hid (by
            rw [e, if_neg h10]; have := hQ.out; omega)
          clear h10 e hQ
          go_wp2
          go_round
          case rel => exact ⟨j + 1, nl, by omega, by go_num, by go_num, by omega, hQ'⟩
          case measure => simp [intOf]; omega
      · have hl : Hid (nl = 1 + nf) := Lib.hid (by
          have := hQ.out
          rw [show j = k by omega, HNF.out] at this; exact this)
        obtain rfl : nl = 1 + nf := hl.out
        clear hQ hl
        go_wp2_with fail
        refine (awake_any w1 (HE.out.below HE.out.2.2 HB1.out)).mono ?_
        rintro e w2 ⟨rfl, hb2⟩
        have HB2 := Lib.hid (HB1.out.trans (hb2.mono HB1.out.size))
        clear hb2
        go_wp2
        go_ret
        exact ⟨rfl, HB2.out⟩
  · have hbp' : (k : Int) - nc + 1 ≤ 0 := by omega
    go_wp2_with fail
    go_loop [10, 11] (fun l i => ∃ j nl : Nat, j ≤ k ∧ i = .int .i64 j ∧ l = .int .i64 nl ∧ nl ≤ 1 + j ∧ Hid (nl = 1 + Lx.feeds ((s.extract 0 m).data.toList.take j))) (fun _ i => k - (intOf i).toNat)
    case atStart => exact ⟨0, 1, Nat.zero_le _, rfl, rfl, by omega, Lib.hid (by simp [Lx.feeds])⟩
    case round =>
      obtain ⟨j, nl, hj, rfl, rfl, h1, hQ⟩ := hrel
      by_cases hlt : j < k
      · have hjs : j < (s.extract 0 m).size := by omega
        have hjm : j < m := by omega
        have e := HT.out j hjs
        by_cases h10 : (s.extract 0 m)[j].toNat = 10
        · exact absurd h10 (HBF.out.2 j hjs hlt (by have := HBK.out; omega))
        · have b1 : (((s.extract 0 m)[j].toNat : Int) == 10) = false := ibeq_f (by omega)
          have hQ' : Hid (nl = 1 + Lx.feeds ((s.extract 0 m).data.toList.take (j + 1))) := Lib.hid (by
            rw [e, if_neg h10]; have := hQ.out; omega)
          clear h10 e hQ
          go_wp2
          go_round
          case rel => exact ⟨j + 1, nl, by omega, by go_num, by go_num, by omega, hQ'⟩
          case measure => simp [intOf]; omega
      · have hl : Hid (nl = 1 + nf) := Lib.hid (by
          have := hQ.out
          rw [show j = k by omega, HNF.out] at this; exact this)
        obtain rfl : nl = 1 + nf := hl.out
        clear hQ hl
        go_wp2_with fail
        refine (awake_any w1 (HE.out.below HE.out.2.2 HB1.out)).mono ?_
        rintro e w2 ⟨rfl, hb2⟩
        have HB2 := Lib.hid (HB1.out.trans (hb2.mono HB1.out.size))
        clear hb2
        go_wp2
        go_ret
        exact ⟨rfl, HB2.out⟩

end Go.Proofs.YteileogkggmlhaaDoor
