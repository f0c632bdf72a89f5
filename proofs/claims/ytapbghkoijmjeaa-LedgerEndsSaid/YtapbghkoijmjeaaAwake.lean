/- The function awake of the statements returns true. -/
import Derived.Test.YtapbghkoijmjeaaEqE
namespace Go.Proofs.Ytapbghkoijmjeaa
set_option linter.unusedVariables false
set_option linter.unusedSimpArgs false
open Go.RowKit Go.Shelf
theorem Ok.acquire {t : Ld.T} (h : Ld.Ok t) (task what : Int) (ht : t.time + 1 ≤ 800) : Ld.Ok (Ld.acquire t task what).1 := by
  unfold Ld.acquire
  split
  · exact h
  · split
    · exact h
    · rename_i h1 h2
      have a1 := h.n400
      have a2 := h.n40 task.toNat
      refine ⟨by simp [Ld.add]; omega, fun k => ?_, by simp [Ld.add]; omega, fun k a ha => ?_⟩
      · simp only [Ld.add]
        split
        · simp; omega
        · exact h.n40 k
      · simp only [Ld.add] at ha ⊢
        split at ha
        · rcases List.mem_append.1 ha with ha | ha
          · have := h.lt _ a ha; simp; omega
          · simp at ha; simp; omega
        · have := h.lt _ a ha; simp; omega
theorem Ok.setH {t : Ld.T} (h : Ld.Ok t) (k : Nat) (l : List Nat) (hl : l.length ≤ 40) (hm : ∀ a ∈ l, a < t.es.length) : Ld.Ok (Ld.setH t k l) := by
  refine ⟨h.n400, fun j => ?_, h.time, fun j a ha => ?_⟩
  · simp only [Ld.setH]
    split
    · exact hl
    · exact h.n40 j
  · simp only [Ld.setH] at ha ⊢
    split at ha
    · exact hm a ha
    · exact h.lt j a ha
theorem Ok.relE {t : Ld.T} (h : Ld.Ok t) (a : Nat) (f : Ld.En → Ld.En) (ht : t.time + 1 ≤ 800) : Ld.Ok (Ld.relE t a f) := by
  refine ⟨by rw [relE_es]; exact h.n400, fun k => by rw [relE_hs]; exact h.n40 k, by have := relE_time t a f; omega, fun k b hb => ?_⟩
  rw [relE_hs] at hb
  rw [relE_es]
  exact h.lt k b hb
theorem erase_mem {l : List Nat} {i a : Nat} (h : a ∈ l.eraseIdx i) : a ∈ l := List.mem_of_mem_eraseIdx h
theorem erase_len (l : List Nat) (i : Nat) : (l.eraseIdx i).length ≤ l.length := by rw [List.length_eraseIdx]; split <;> omega
theorem Ok.release {t : Ld.T} (h : Ld.Ok t) (task what : Int) (ht : t.time + 1 ≤ 800) : Ld.Ok (Ld.release t task what).1 := by
  unfold Ld.release
  split
  · exact h
  · split
    · exact h
    · exact Ok.relE (Ok.setH h _ _ (Nat.le_trans (erase_len _ _) (h.n40 _)) fun a ha => h.lt _ a (erase_mem ha)) _ _ ht
def awT : Ld.T := ⟨2, [⟨7, 1, 1, 2, false, false⟩], fun _ => []⟩
theorem aw_acq : Ld.acquire Ld.new 1 7 = (Ld.add Ld.new 1 7, 0) := by
  unfold Ld.acquire
  rw [if_neg (by decide), if_neg (by simp [Ld.new])]
  rfl
theorem aw_add_hs : (Ld.add Ld.new 1 7).hs 1 = [0] := rfl
theorem aw_rel2 : (Ld.release (Ld.add Ld.new 1 7) 1 7).2 = 0 := by
  unfold Ld.release
  rw [if_neg (by decide)]
  rfl
theorem aw_rel1 : (Ld.release (Ld.add Ld.new 1 7) 1 7).1.es = [⟨7, 1, 1, 2, false, false⟩] := by
  unfold Ld.release
  rw [if_neg (by decide)]
  rfl
def en7 : Ld.En := ⟨7, 1, 1, 2, false, false⟩
theorem ents_one (w : World) (e : Ld.En) : EntsAt (w.alloc (.cells #[.int .i64 e.what, .int .i64 e.task, .int .i64 e.frm, .int .i64 e.to_] 46)) (some ⟨w.heap.size, 0, none⟩) [e] := fun i x hx => by
  cases i with
  | succ i => simp at hx
  | zero =>
    have hx' : e = x := by simpa using hx
    subst hx'
    refine ⟨_, 0, rfl, by simp, fun j u hu => ?_⟩
    have := (Blk.new w #[.int .i64 e.what, .int .i64 e.task, .int .i64 e.frm, .int .i64 e.to_] 46).cell j u hu
    simpa using this
set_option maxRecDepth 100000 in
set_option maxHeartbeats 8000000 in
theorem awake_any (w : World) : Calls Try.prog 14 #[] w (still w (.bool true)) := by
  unfold still
  have N := Lib.hid (new_any w)
  unfold newPost at N
  go_enter Try.func14, Try.ntmps14
  go_wp2_with fail
  refine N.out.mono ?_
  rintro e w1 ⟨rfl, hO1⟩
  obtain ⟨L1, hR1⟩ := hO1.rep
  have A1 := Lib.hid (acquire_any hR1 hO1.ok 1 7)
  have H1 := Lib.hid hO1
  have K1 : Hid (Ld.Ok (Ld.add Ld.new 1 7)) := Lib.hid (by have := Ok.acquire hO1.ok 1 7 (by simp [Ld.new]); rw [aw_acq] at this; exact this)
  unfold goneI at A1
  rw [aw_acq] at A1
  clear hO1 hR1 N
  go_wp2_with fail
  refine A1.out.mono ?_
  rintro e w2 ⟨rfl, hG2⟩
  obtain ⟨own2, hO2, -, -⟩ := H1.out.gone hG2 K1.out
  obtain ⟨L2, hR2⟩ := hO2.rep
  have A2 := Lib.hid (rls_any hR2 hO2.ok 1 7)
  have H2 := Lib.hid hO2
  have K2 : Hid (Ld.Ok (Ld.release (Ld.add Ld.new 1 7) 1 7).1) := Lib.hid (Ok.release hO2.ok 1 7 (by simp [Ld.add, Ld.new]))
  unfold goneI at A2
  rw [aw_rel2] at A2
  clear hO2 hR2 hG2 A1 H1
  go_wp2_with fail
  refine A2.out.mono ?_
  rintro e w3 ⟨rfl, hG3⟩
  obtain ⟨own3, hO3, -, -⟩ := H2.out.gone hG3 K2.out
  obtain ⟨L3, hR3⟩ := hO3.rep
  have A3 := Lib.hid (log_any hR3 (by rw [aw_rel1]; simp))
  have H3 := Lib.hid hO3
  unfold logPost at A3
  rw [aw_rel1] at A3
  clear hO3 hR3 hG3 A2 H2
  go_wp2_with fail
  refine A3.out.mono ?_
  rintro e w4 ⟨p4, cap4, rfl, hc4, hc4', hL4⟩
  have H4 := Lib.hid (H3.out.below hL4.2)
  have EQ := Lib.hid (equalE_any (w4.alloc (.cells #[.int .i64 7, .int .i64 1, .int .i64 1, .int .i64 2] 46)) p4 (some ⟨w4.heap.size, 0, none⟩) cap4 1 [en7] [en7] (by simp) (by simp) (hL4.at_.below (one _ _)) (ents_one w4 en7))
  rw [show eqE [en7] [en7] = true by decide] at EQ
  clear hL4 A3 H3
  go_wp2_with fail
  refine EQ.out.mono ?_
  rintro e w5 ⟨rfl, hb5⟩
  have H5 := Lib.hid (H4.out.below ((one w4 (.cells #[.int .i64 7, .int .i64 1, .int .i64 1, .int .i64 2] 46)).trans (hb5.mono (by simp))))
  obtain ⟨L5, hR5⟩ := H5.out.rep
  have A5 := Lib.hid (sound_any hR5 (by rw [aw_rel1]; simp))
  rw [show Ld.sound (Ld.release (Ld.add Ld.new 1 7) 1 7).1 = true by unfold Ld.sound; rw [aw_rel1]; decide] at A5
  unfold still at A5
  clear hb5 hR5 EQ H4
  go_wp2_with fail
  refine A5.out.mono ?_
  rintro e w6 ⟨rfl, hb6⟩
  have HB := Lib.hid (H5.out.bel.trans (hb6.mono H5.out.bel.size))
  clear hb6
  go_wp2
  go_ret
  exact ⟨rfl, HB.out⟩
end Go.Proofs.Ytapbghkoijmjeaa
