/- What Fail does. -/
import Derived.Test.YtcegmdlmnibheaaLim
namespace Go.Proofs.Ytcegmdlmnibheaa
set_option linter.unusedVariables false
set_option linter.unusedSimpArgs false
open Go.RowKit
def goneE (w : World) (own : Own) (tb : Nat) (r : Tr.T × List Tr.E × Int) (e : Ending) (w' : World) : Prop :=
  ∃ p cap, e = .returned (.tuple #[.slice p r.2.1.length cap, .int .i64 r.2.2]) ∧ GoneE w own tb r.1 r.2.1 (.slice p r.2.1.length cap) w'
section
variable {w : World} {own : Own} {tb : Nat} {L : Lay} {t : Tr.T}
theorem Gone.noE {w' : World} (h : Gone w own tb t w') : GoneE w own tb t [] (.slice none 0 0) w' := by
  obtain ⟨o, M, h1, h2, h3⟩ := h
  exact ⟨o, M, h1, h2, h3, World.ownsRow_nil _ _ _ _, by simp [Value.ownBlock]⟩
theorem goneE_nil {w' : World} {c : Int} (h : Gone w own tb t w') : goneE w own tb (t, [], c) (.returned (.tuple #[.slice none 0 0, .int .i64 c])) w' := ⟨none, 0, rfl, h.noE⟩
theorem valid_k {f : Tr.F} (h : (Tr.validB f && decide (f.k = 1)) = false) : Tr.validB f = false ∨ (Tr.validB f = true ∧ f.k ≠ 1) := by
  cases hv : Tr.validB f with
  | false => exact .inl rfl
  | true => rw [hv] at h; simp at h; exact .inr ⟨rfl, h⟩
set_option maxRecDepth 100000 in
set_option maxHeartbeats 4000000 in
theorem fail_any (h : Rep w own tb L t) (n : Int) (f : Tr.F) (hs : f.s.size ≤ 9223372036854775807) : Calls Try.prog 20 #[ptr tb, .int .i64 n, flV f] w (goneE w own tb (Tr.fail t n f)) := by
  unfold Tr.fail
  have HG1 : Hid (∀ o, Gone w own tb t (w.alloc o)) := Lib.hid fun o => h.goneB (one _ _)
  cases hn : Tr.scp t n with
  | none =>
    have A : Hid (∀ o, Calls Try.prog 62 #[ptr tb, .int .i64 n] (w.alloc o) (same (w.alloc o) (.tuple #[.pointer none, .int .i64 6]))) := Lib.hid fun o => scope_no (h.below (one _ _)) hn
    unfold same at A
    unfold flV
    clear h hn
    go_enter Try.func20, Try.ntmps20
    go_wp2_with fail
    refine (A.out _).mono ?_
    rintro e w2 ⟨rfl, rfl⟩
    go_wp2
    go_ret2
    exact goneE_nil (HG1.out _)
  | some y =>
    obtain ⟨j, rfl, hy⟩ := scp_some hn
    simp only [to_i]
    have A : Hid (∀ o, Calls Try.prog 62 #[ptr tb, .int .i64 ((j : Int) + 1)] (w.alloc o) (same (w.alloc o) (.tuple #[scP L (some j), .int .i64 0]))) := Lib.hid fun o => scope_ok (h.below (one _ _)) hy
    have HD : Hid (∀ o, (w.alloc o).cell? ⟨L.sc j, 1, none⟩ = some (.bool y.done)) := Lib.hid fun o => (h.sc j y hy).blk.alloc o |>.cell 1 _ rfl
    have hlt := (h.sc j y hy).blk.lt
    unfold same scP at A
    have hcase : y.done = true ∨ (y.done = false) := by cases y.done <;> simp
    rcases hcase with hd | hd
    · rw [if_pos hd]
      rw [hd] at HD
      unfold flV
      clear h hn hy hd
      go_enter Try.func20, Try.ntmps20
      go_wp2_with fail
      refine (A.out _).mono ?_
      rintro e w2 ⟨rfl, rfl⟩
      have hdc := HD.out (.cells #[.int .i64 f.k, .string f.s] 37)
      go_wp2
      go_ret2
      exact goneE_nil (HG1.out _)
    · rw [if_neg (by simp [hd])]
      rw [hd] at HD
      have V : Hid (∀ w, Calls Try.prog 56 #[flV f] w (still w (.bool (Tr.validB f)))) := Lib.hid fun w => valid_any f w hs
      unfold still at V
      have HG2 : Hid (∀ o w2, Below (w.alloc o).heap.size (w.alloc o) w2 → Gone w own tb t w2) := Lib.hid fun o w2 hb => h.goneB ((one w o).trans (hb.mono (by simp)))
      cases hvk : (Tr.validB f && decide (f.k = 1)) with
      | false =>
        rw [if_neg (by simp)]
        rcases valid_k hvk with hv | ⟨hv, hk⟩
        · rw [hv] at V
          unfold flV at *
          clear h hn hy hd hvk hv
          go_enter Try.func20, Try.ntmps20
          go_wp2_with fail
          refine (A.out _).mono ?_
          rintro e w2 ⟨rfl, rfl⟩
          have hdc := HD.out (.cells #[.int .i64 f.k, .string f.s] 37)
          go_wp2_with fail
          refine (V.out _).mono ?_
          rintro e w3 ⟨rfl, hb3⟩
          have HG3 := Lib.hid (HG2.out _ _ hb3)
          clear hb3
          go_wp2
          go_ret2
          exact goneE_nil HG3.out
        · rw [hv] at V
          have hk' : (f.k != 1) = true := by simpa using hk
          unfold flV at *
          clear h hn hy hd hvk hv hk
          go_enter Try.func20, Try.ntmps20
          go_wp2_with fail
          refine (A.out _).mono ?_
          rintro e w2 ⟨rfl, rfl⟩
          have hdc := HD.out (.cells #[.int .i64 f.k, .string f.s] 37)
          have c0 : (w.alloc (.cells #[.int .i64 f.k, .string f.s] 37)).cell? ⟨w.heap.size, 0, none⟩ = some (.int .i64 f.k) := (Blk.new w #[.int .i64 f.k, .string f.s] 37).cell 0 _ rfl
          have C0 := Lib.hid c0
          clear c0
          go_wp2_with fail
          refine (V.out _).mono ?_
          rintro e w3 ⟨rfl, hb3⟩
          have HG3 := Lib.hid (HG2.out _ _ hb3)
          have c3 : w3.cell? ⟨w.heap.size, 0, none⟩ = some (.int .i64 f.k) := cell_of hb3 C0.out
          have s3 : w.heap.size < w3.heap.size := by have := hb3.size; simp at this; omega
          clear hb3
          go_wp2
          go_ret2
          exact goneE_nil HG3.out
      | true =>
        rw [if_pos rfl]
        simp only [Bool.and_eq_true, decide_eq_true_eq] at hvk
        obtain ⟨hv, hk⟩ := hvk
        rw [hv] at V
        have HTK : Hid (∀ o w2, Below (w.alloc o).heap.size (w.alloc o) w2 → Calls Try.prog 57 #[scP L (some j), flV f] w2 fun e w' => e = .returned (.bool (Tr.takes y)) ∧ Rep w' own tb L (Tr.setS t j (Tr.taken y f)) ∧ Fr (fun k => own k ≠ none) w w') := Lib.hid fun o w2 hb => by
          have hB := (one w o).trans (hb.mono (by simp))
          exact (take_any (h.below hB) hy f).mono fun e w' hp => ⟨hp.1, hp.2.1, (Fr.of_below hB).thenL hp.2.2 fun k e => .inl (by rw [e, (h.sc j y hy).mine]; simp)⟩
        have HTE : Hid (Tr.take t j f = Tr.setS t j (Tr.taken y f)) := Lib.hid (by unfold Tr.take; rw [hy])
        have HYY : Hid ((Tr.setS t j (Tr.taken y f)).ss[j]? = some (Tr.taken y f)) := Lib.hid (by simp [Tr.setS, (List.getElem?_eq_some_iff.1 hy).1])
        unfold scP at HTK
        have hk1 : (f.k == 1) = true := by simpa using hk
        have hk2 : (f.k != 1) = false := by simpa using hk
        have HLT := h.lt
        cases htk : Tr.takes y with
        | false =>
          rw [if_neg (by simp)]
          rw [htk] at HTK
          have HSM : Hid (Tr.setS t j (Tr.taken y f) = t) := Lib.hid (by
            have : Tr.taken y f = y := by unfold Tr.taken; rw [if_neg (by simpa [Tr.takes] using htk)]
            rw [this, setS_same hy])
          rw [HSM.out] at HTK
          unfold flV at *
          clear h hn hy hd hv hk htk
          go_enter Try.func20, Try.ntmps20
          go_wp2_with fail
          refine (A.out _).mono ?_
          rintro e w2 ⟨rfl, rfl⟩
          have hdc := HD.out (.cells #[.int .i64 f.k, .string f.s] 37)
          have C : Hid (Blk (w.alloc (.cells #[.int .i64 f.k, .string f.s] 37)) w.heap.size [.int .i64 f.k, .string f.s]) := Lib.hid (Blk.new w #[.int .i64 f.k, .string f.s] 37)
          go_wp2_with fail
          refine (V.out _).mono ?_
          rintro e w3 ⟨rfl, hb3⟩
          have c3 := (C.out.below hb3 C.out.lt).cell 0 _ rfl
          have c4 := (C.out.below hb3 C.out.lt).cell 1 _ rfl
          have s3 : w.heap.size < w3.heap.size := by have := hb3.size; simp at this; omega
          have T3 := Lib.hid (HTK.out _ _ hb3)
          clear hb3
          go_wp2_with fail
          refine T3.out.mono ?_
          rintro e w5 ⟨rfl, hR5, hF5⟩
          have HG5 : Hid (Gone w own tb t w5) := Lib.hid ⟨own, L, hR5, fun _ _ => rfl, hF5⟩
          clear hR5 hF5 T3
          go_wp2
          go_ret2
          exact goneE_nil HG5.out
        | true =>
          rw [if_pos rfl]
          rw [htk] at HTK
          rw [HTE.out]
          unfold flV at *
          clear h hn hy hd hv hk htk
          go_enter Try.func20, Try.ntmps20
          go_wp2_with fail
          refine (A.out _).mono ?_
          rintro e w2 ⟨rfl, rfl⟩
          have hdc := HD.out (.cells #[.int .i64 f.k, .string f.s] 37)
          have C : Hid (Blk (w.alloc (.cells #[.int .i64 f.k, .string f.s] 37)) w.heap.size [.int .i64 f.k, .string f.s]) := Lib.hid (Blk.new w #[.int .i64 f.k, .string f.s] 37)
          go_wp2_with fail
          refine (V.out _).mono ?_
          rintro e w3 ⟨rfl, hb3⟩
          have c3 := (C.out.below hb3 C.out.lt).cell 0 _ rfl
          have c4 := (C.out.below hb3 C.out.lt).cell 1 _ rfl
          have s3 : w.heap.size < w3.heap.size := by have := hb3.size; simp at this; omega
          have T3 := Lib.hid (HTK.out _ _ hb3)
          clear hb3
          go_wp2_with fail
          refine T3.out.mono ?_
          rintro e w5 ⟨rfl, hR5, hF5⟩
          have CA := Lib.hid (cancelled_any hR5 HYY.out)
          unfold still scP at CA
          have HR5 := Lib.hid hR5; have HF5 := Lib.hid hF5
          clear hR5 hF5 T3
          unfold efV at CA
          go_wp2_with fail
          refine CA.out.mono ?_
          rintro e w6 ⟨rfl, hb6⟩
          have HB6 := Lib.hid hb6
          clear hb6
          go_wp2
          go_ret2
          have hz := HF5.out.size
          have hz6 := HB6.out.size
          refine ⟨_, _, rfl, own, L, HR5.out.below (HB6.out.trans (one _ _ |>.mono hz6)), fun _ _ => rfl, (HF5.out.below_then HB6.out).alloc _, effs_one w6 (Tr.eScope j) (by omega), fun k e => ?_⟩
          cases hk : own k with
          | none => rfl
          | some r => have := HLT k r hk; simp [Value.ownBlock] at e; omega
end
end Go.Proofs.Ytcegmdlmnibheaa
