/- LedgerFull. -/
import Derived.Test.YtapbghkoijmjeaaNobody
import Derived.Test.YtapbghkoijmjeaaFrame
namespace Go.Proofs.Ytapbghkoijmjeaa
set_option linter.unusedVariables false
set_option linter.unusedSimpArgs false
open Go.RowKit Go.Shelf
/-- After j of the acquisitions of a task, and forty of each before it. -/
structure FullR (k j : Nat) (what : Int) (t : Ld.T) : Prop where
  len : t.es.length = (k - 1) * 40 + j
  tm : t.time = (k - 1) * 40 + j
  lo : ∀ i, 1 ≤ i → i < k → (t.hs i).length = 40
  mid : (t.hs k).length = j
  hi : ∀ i, k < i → t.hs i = []
  ws : ∀ (i : Nat) e, t.es[i]? = some e → e.what = what
theorem FullR.step {k j : Nat} {what : Int} {t : Ld.T} (h : FullR k j what t) (hk : 1 ≤ k) : FullR k (j + 1) what (Ld.add t k what) :=
  ⟨by simp [Ld.add, h.len]; omega, by simp [Ld.add, h.tm]; omega, fun i h1 h2 => by simp only [Ld.add]; rw [if_neg (by omega)]; exact h.lo i h1 h2, by simp [Ld.add, h.mid],
    fun i hi => by simp only [Ld.add]; rw [if_neg (by omega)]; exact h.hi i hi, fun i e he => by
      simp only [Ld.add] at he
      by_cases hi : i < t.es.length
      · rw [List.getElem?_append_left hi] at he; exact h.ws i e he
      · rw [List.getElem?_append_right (by omega)] at he
        cases hd : i - t.es.length with
        | zero => rw [hd] at he; simp at he; rw [← he]
        | succ n => rw [hd] at he; simp at he⟩
theorem FullR.next {k : Nat} {what : Int} {t : Ld.T} (h : FullR k 40 what t) (hk : 1 ≤ k) : FullR (k + 1) 0 what t :=
  ⟨by rw [h.len]; obtain ⟨m, rfl⟩ : ∃ m, k = m + 1 := ⟨k - 1, by omega⟩; simp; omega, by rw [h.tm]; obtain ⟨m, rfl⟩ : ∃ m, k = m + 1 := ⟨k - 1, by omega⟩; simp; omega,
    fun i h1 h2 => by
      by_cases e : i = k
      · subst e; exact h.mid
      · exact h.lo i h1 (by omega), by rw [h.hi (k + 1) (by omega)]; rfl, fun i hi => h.hi i (by omega), h.ws⟩
theorem FullR.ok_ {k j : Nat} {what : Int} {t : Ld.T} (h : FullR k j what t) (h0 : Ld.Ok t) (hk : 1 ≤ k) (hk2 : k ≤ 10) (hj : j < 40) (hw : Ld.isWhat what = true) : Ld.acquire t (k : Int) what = (Ld.add t k what, 0) := by
  have h1 := h.len
  have h2 := h.mid
  unfold Ld.acquire
  rw [if_neg (by rw [hw]; unfold Ld.knows; simp; omega), show ((k : Int)).toNat = k by omega, if_neg (by rintro (h | h) <;> omega)]
theorem FullR.full {k : Nat} {what : Int} {t : Ld.T} (h : FullR k 40 what t) (hk : 1 ≤ k) (hk2 : k ≤ 10) (hw : Ld.isWhat what = true) : Ld.acquire t (k : Int) what = (t, 5) := by
  have h2 := h.mid
  unfold Ld.acquire
  rw [if_neg (by rw [hw]; unfold Ld.knows; simp; omega), show ((k : Int)).toNat = k by omega, if_pos (.inl h2)]
theorem full_all {what : Int} {t : Ld.T} (h : t.es.length = 400) (hw : Ld.isWhat what = true) (n : Nat) (h1 : 1 ≤ n) (h2 : n ≤ 64) : Ld.acquire t (n : Int) what = (t, 5) := by
  unfold Ld.acquire
  rw [if_neg (by rw [hw]; unfold Ld.knows; simp; omega), if_pos (.inr h)]
theorem full_rel {what : Int} {t : Ld.T} (h : FullR 11 0 what t) (h0 : Ld.Ok t) (hw : Ld.isWhat what = true) : (Ld.release t 1 what).2 = 0 ∧ (Ld.release t 1 what).1.es.length = 400 ∧ (Ld.release t 1 what).1.time ≤ 401 := by
  unfold Ld.release
  rw [if_neg (by rw [hw]; simp [Ld.knows])]
  have hl := h.lo 1 (by omega) (by omega)
  rcases List.eq_nil_or_concat (t.hs 1) with hn | ⟨l, a, hc⟩
  · rw [hn] at hl; simp at hl
  · rw [List.concat_eq_append] at hc
    have ha : a < t.es.length := h0.lt 1 a (by rw [hc]; simp)
    have hf : Ld.fits t what a = true := by
      unfold Ld.fits
      rw [List.getElem?_eq_getElem ha]
      simpa using h.ws a _ (List.getElem?_eq_getElem ha)
    have : Ld.lastAt (Ld.fits t what) (t.hs (1 : Int).toNat) = some l.length := by
      show Ld.lastAt (Ld.fits t what) (t.hs 1) = _
      rw [hc]
      exact lastAt_some (a := a) (by simp) hf fun j b hj hb => by
        have := (List.getElem?_eq_some_iff.1 hb).1
        simp at this; omega
    rw [this]
    refine ⟨rfl, ?_, ?_⟩
    · show (Ld.relE _ _ _).es.length = 400
      rw [relE_es]; exact h.len
    · show (Ld.relE _ _ _).time ≤ 401
      have := relE_time (Ld.setH t (1 : Int).toNat ((t.hs (1 : Int).toNat).eraseIdx l.length)) ((t.hs (1 : Int).toNat).getD l.length 0) (Ld.crs (decide (l.length + 1 < (t.hs (1 : Int).toNat).length)))
      have h5 : (Ld.setH t (1 : Int).toNat ((t.hs (1 : Int).toNat).eraseIdx l.length)).time = t.time := rfl
      have := h.tm
      omega
theorem mod_u (x : Int) (m : Nat) (hm : 0 < m) (hm2 : m ≤ 1000) : ∃ r : Nat, r < m ∧ wrap64 ((IntKind.u64.wrap x).tmod (m : Int)) = (r : Int) := by
  have h0 : 0 ≤ IntKind.u64.wrap x := by simp [IntKind.wrap, IntKind.signed, IntKind.bits]; omega
  refine ⟨((IntKind.u64.wrap x).tmod (m : Int)).toNat, ?_, ?_⟩
  · have := Int.tmod_lt_of_pos (IntKind.u64.wrap x) (b := (m : Int)) (by omega)
    have := Int.tmod_nonneg (m : Int) h0
    omega
  · have h1 := Int.tmod_lt_of_pos (IntKind.u64.wrap x) (b := (m : Int)) (by omega)
    have h2 := Int.tmod_nonneg (m : Int) h0
    have h3 : wrap64 ((IntKind.u64.wrap x).tmod (m : Int)) = (IntKind.u64.wrap x).tmod (m : Int) := by unfold wrap64; omega
    rw [h3]
    omega
theorem Ok.add {t : Ld.T} {k : Nat} {what : Int} (h : Ld.Ok t) (hk : 1 ≤ k) (h2 : k ≤ 64) (ht : t.time + 1 ≤ 800) (he : Ld.acquire t (k : Int) what = (Ld.add t k what, 0)) : Ld.Ok (Ld.add t k what) := by
  have := Ok.acquire h (k : Int) what ht
  rw [he] at this
  exact this
set_option maxRecDepth 100000 in
set_option maxHeartbeats 8000000 in
theorem law_full (x y : Int) (w : World) : Calls Try.prog 9 #[.int .i64 x, .int .i64 y] w (still w (.bool true)) := by
  unfold still
  have N := Lib.hid (new_any w)
  unfold newPost at N
  obtain ⟨r, hr, er⟩ := mod_u x 1000 (by omega) (by omega)
  obtain ⟨r2, hr2, er2⟩ := mod_u y 64 (by omega) (by omega)
  have ER := Lib.hid er
  have ER2 := Lib.hid er2
  have HW : Hid (Ld.isWhat (r : Int) = true) := Lib.hid (by simp [Ld.isWhat]; omega)
  have AW := Lib.hid awake_any
  unfold still at AW
  clear er er2
  go_enter Try.func9, Try.ntmps9
  go_wp2_with fail
  refine N.out.mono ?_
  rintro e w1 ⟨rfl, hO1⟩
  have HS : Hid (FullR 1 0 (r : Int) Ld.new) := Lib.hid ⟨rfl, rfl, fun i h1 h2 => by omega, rfl, fun _ _ => rfl, fun i e he => by simp [Ld.new] at he⟩
  have HO1 := Lib.hid hO1
  clear hO1 N
  go_wp2_with fail
  rw [show wrap64 ((IntKind.u64.wrap x).tmod 1000) = (r : Int) from ER.out]
  go_loopw [6] (fun v wr => ∃ (k : Nat) (own : Own) (t : Ld.T), 1 ≤ k ∧ k ≤ 11 ∧ v = .int .i64 (k : Int) ∧ Hid (FullR k 0 (r : Int) t) ∧ Hid (Ow w own w.heap.size t wr)) (fun v _ => 11 - (intOf v).toNat)
  case atStart => exact ⟨1, _, _, Nat.le_refl _, by omega, rfl, HS, HO1⟩
  case round =>
    obtain ⟨k, own, t, hk1, hk2, rfl, HF, HO⟩ := hrel
    clear HS HO1
    by_cases hlt : k ≤ 10
    · have hk10 : decide ((k : Int) ≤ 10) = true := by simp; omega
      go_wp2_with fail
      go_loopw [16] (fun v wr => ∃ (j : Nat) (own : Own) (t : Ld.T), j ≤ 40 ∧ v = .int .i64 (j : Int) ∧ Hid (FullR k j (r : Int) t) ∧ Hid (Ow w own w.heap.size t wr)) (fun v _ => 40 - (intOf v).toNat)
      case atStart => exact ⟨0, own, t, by omega, rfl, HF, HO⟩
      case round =>
        obtain ⟨j, own, t, hj, rfl, HF, HO⟩ := hrel
        by_cases hj2 : j < 40
        · obtain ⟨L, hR⟩ := HO.out.rep
          have A := Lib.hid (acquire_any hR HO.out.ok (k : Int) (r : Int))
          have he := HF.out.ok_ HO.out.ok hk1 hlt hj2 HW.out
          unfold goneI at A
          rw [he] at A
          have HK : Hid (Ld.Ok (Ld.add t k (r : Int))) := Lib.hid (Ok.add HO.out.ok hk1 (by omega) (by rw [HF.out.tm]; omega) he)
          clear hR he
          go_wp2_with fail
          refine A.out.mono ?_
          rintro e w2 ⟨rfl, hG⟩
          obtain ⟨own2, hO2, -, -⟩ := HO.out.gone hG HK.out
          have HO2 := Lib.hid hO2
          clear hG hO2 A
          go_wp2
          go_roundw
          case rel => exact ⟨j + 1, own2, _, by omega, by go_num, Lib.hid (HF.out.step hk1), HO2⟩
          case measure => simp [intOf]; omega
        · obtain rfl : j = 40 := by omega
          obtain ⟨L, hR⟩ := HO.out.rep
          have A := Lib.hid (acquire_any hR HO.out.ok (k : Int) (r : Int))
          unfold goneI at A
          rw [HF.out.full hk1 hlt HW.out] at A
          clear hR
          go_wp2_with fail
          refine A.out.mono ?_
          rintro e w2 ⟨rfl, hG⟩
          obtain ⟨own2, hO2, -, -⟩ := HO.out.gone hG HO.out.ok
          have HO2 := Lib.hid hO2
          clear hG hO2 A
          go_wp2_with fail
          exact ⟨⟨k + 1, own2, t, by omega, by omega, by go_num, Lib.hid (HF.out.next hk1), HO2⟩, by simp [intOf]; omega⟩
    · obtain rfl : k = 11 := by omega
      obtain ⟨L, hR⟩ := HO.out.rep
      have hlen : t.es.length = 400 := HF.out.len
      obtain ⟨r3, hr3⟩ : ∃ r3 : Nat, (1 : Int) + (r2 : Int) = (r3 : Int) := ⟨r2 + 1, by omega⟩
      have A := Lib.hid (acquire_any hR HO.out.ok (r3 : Int) (r : Int))
      unfold goneI at A
      rw [full_all hlen HW.out r3 (by omega) (by omega)] at A
      have e9 : IntKind.i64.wrap ((1 : Int) + (r2 : Int)) = (r3 : Int) := by rw [IntWalk.i64_in _ (by omega)]; exact hr3
      have e8 : wrap64 ((IntKind.u64.wrap y).tmod 64) = (r2 : Int) := ER2.out
      have HR3 := Lib.hid hr3
      have HLEN := Lib.hid hlen
      clear hR hlen
      go_wp2_with fail
      refine A.out.mono ?_
      rintro e w2 ⟨rfl, hG⟩
      obtain ⟨own2, hO2, -, -⟩ := HO.out.gone hG HO.out.ok
      obtain ⟨L2, hR2⟩ := hO2.rep
      have A2 := Lib.hid (rls_any hR2 hO2.ok 1 (r : Int))
      have HF11 := HF
      obtain ⟨c1, c2, c3⟩ := full_rel HF.out hO2.ok HW.out
      unfold goneI at A2
      rw [c1] at A2
      have HO2 := Lib.hid hO2
      have HC2 := Lib.hid c2
      have HOK : Hid (Ld.Ok (Ld.release t 1 (r : Int)).1) := Lib.hid (Ok.release hO2.ok 1 (r : Int) (by rw [HF.out.tm]; omega))
      clear hG hO2 hR2 c1 c2 c3 A HF11
      generalize (Ld.release t 1 (r : Int)).1 = t3 at *
      go_wp2_with fail
      refine A2.out.mono ?_
      rintro e w3 ⟨rfl, hG⟩
      obtain ⟨own3, hO3, -, -⟩ := HO2.out.gone hG HOK.out
      obtain ⟨L3, hR3⟩ := hO3.rep
      have A3 := Lib.hid (acquire_any hR3 hO3.ok 1 (r : Int))
      unfold goneI at A3
      rw [show Ld.acquire t3 1 (r : Int) = (t3, 5) from full_all HC2.out HW.out 1 (by omega) (by omega)] at A3
      have HO3 := Lib.hid hO3
      clear hG hO3 hR3 A2
      go_wp2_with fail
      refine A3.out.mono ?_
      rintro e w4 ⟨rfl, hG⟩
      obtain ⟨own4, hO4, -, -⟩ := HO3.out.gone hG HO3.out.ok
      obtain ⟨L4, hR4⟩ := hO4.rep
      have A4 := Lib.hid (log_any hR4 (by rw [HC2.out]; omega))
      unfold logPost at A4
      rw [HC2.out] at A4
      have HO4 := Lib.hid hO4
      clear hG hO4 hR4 A3
      go_wp2_with fail
      refine A4.out.mono ?_
      rintro e w5 ⟨p5, cap5, rfl, h51, h52, hL5⟩
      have HO5 := Lib.hid (HO4.out.below hL5.2)
      clear hL5 A4
      go_wp2_with fail
      refine (AW.out _).mono ?_
      rintro e w6 ⟨rfl, hb⟩
      have HB := Lib.hid (HO5.out.bel.trans (hb.mono HO5.out.bel.size))
      clear hb
      go_wp2
      go_ret
      exact ⟨rfl, HB.out⟩
theorem law_full_c (x y : Int) (w : World) (_ : (Lit.int .i64 x).wf = true) (_ : (Lit.int .i64 y).wf = true) : Calls Try.prog 9 #[.int .i64 x, .int .i64 y] w fun e w' => e = .returned (.bool true) ∧ Below w.heap.size w w' := law_full x y w
end Go.Proofs.Ytapbghkoijmjeaa
