/- What Leave does, whatever the case. -/
import Derived.Test.YtcegmdlmnibheaaLv1
import Derived.Test.YtcegmdlmnibheaaLv2
import Derived.Test.YtcegmdlmnibheaaLv3
import Derived.Test.YtcegmdlmnibheaaLv4
import Derived.Test.YtcegmdlmnibheaaLv5
namespace Go.Proofs.Ytcegmdlmnibheaa
set_option linter.unusedVariables false
set_option linter.unusedSimpArgs false
open Go.RowKit
section
variable {w : World} {own : Own} {tb : Nat} {L : Lay} {t : Tr.T}
set_option maxRecDepth 100000 in
set_option maxHeartbeats 4000000 in
/-- The place is wrong. -/
theorem leave_place (h : Rep w own tb L t) (f : Tr.F) (hs : f.s.size ≤ 9223372036854775807) {i : Nat} {x : Tr.Tk} (hx : t.ts[i]? = some x) (hd : x.done = false) (hv : Tr.validB f = true) (hp : x.leav = true ∨ ∀ j, x.op.getLast? ≠ some (some j)) :
    Calls Try.prog 19 #[ptr tb, .int .i64 ((i : Int) + 1), flV f] w (goneE w own tb (t, [], 22)) := by
  have A : Hid (∀ o, Calls Try.prog 55 #[ptr tb, .int .i64 ((i : Int) + 1)] (w.alloc o) (same (w.alloc o) (.tuple #[tkP L i, .int .i64 0]))) := Lib.hid fun o => running_ok (h.below (one _ _)) hx hd
  have V : Hid (∀ w, Calls Try.prog 56 #[flV f] w (still w (.bool true))) := Lib.hid fun w => by have := valid_any f w hs; rw [hv] at this; exact this
  have IN : Hid (∀ W, Rep W own tb L t → Calls Try.prog 60 #[tkP L i] W fun e w' => e = .returned (.tuple #[scP L (x.op.getLast?.getD none), .bool x.op.getLast?.isSome]) ∧ ∃ n, w' = W.drewN n) := Lib.hid fun W hW => inner_any hW hx
  unfold same tkP at A
  unfold still at V
  unfold tkP at IN
  have HH := Lib.hid h
  have HX := Lib.hid hx
  have hpp : (∃ q, scP L (x.op.getLast?.getD none) = .pointer q ∧ x.leav = true) ∨ (scP L (x.op.getLast?.getD none) = .pointer none ∧ x.leav = false) := by
    cases hl : x.leav with
    | true => refine .inl ?_; cases x.op.getLast?.getD none <;> exact ⟨_, rfl, rfl⟩
    | false =>
      refine .inr ⟨?_, rfl⟩
      rcases hp with hp | hp
      · rw [hl] at hp; cases hp
      · cases hg : x.op.getLast? with
        | none => rfl
        | some s => cases s with
          | none => rfl
          | some j => exact absurd hg (hp j)
  unfold flV at *
  clear h hx hd hv hp
  rcases hpp with ⟨q, hq, hlv⟩ | ⟨hq, hlv⟩ <;> rw [hq] at IN <;> have HLV := Lib.hid hlv <;> clear hq hlv
  all_goals
    go_enter Try.func19, Try.ntmps19
    go_wp2_with fail
    refine (A.out _).mono ?_
    rintro e w2 ⟨rfl, rfl⟩
    have C : Hid (Blk (w.alloc (.cells #[.int .i64 f.k, .string f.s] 37)) w.heap.size [.int .i64 f.k, .string f.s]) := Lib.hid (Blk.new w #[.int .i64 f.k, .string f.s] 37)
    have c0 := C.out.cell 0 _ rfl
    have c1 := C.out.cell 1 _ rfl
    go_wp2_with fail
    refine (V.out _).mono ?_
    rintro e w3 ⟨rfl, hb3⟩
    have hB3 := (one w (.cells #[.int .i64 f.k, .string f.s] 37)).trans (hb3.mono (by simp))
    have R3 : Rep w3 own tb L t := HH.out.below hB3
    have I3 := Lib.hid (IN.out w3 R3)
    have d6 : ∀ n, (w3.drewN n).cell? ⟨L.tk i, 6, none⟩ = some (.bool x.leav) := fun n => (R3.tk i x HX.out).blk.drewN n |>.cell 6 _ rfl
    rw [HLV.out] at d6
    have D6 := Lib.hid d6
    have l3 := (R3.tk i x HX.out).blk.lt
    have HB3 : Hid (∀ n, Gone w own tb t (w3.drewN n)) := Lib.hid fun n => HH.out.goneB (hB3.trans ((drewN_below w3 n).mono hB3.size))
    clear c0 c1 hb3 R3 hB3 IN C d6
    go_wp2_with fail
    refine I3.out.mono ?_
    rintro e w4 ⟨rfl, n, rfl⟩
    have d6 := D6.out n
    go_wp2
    go_ret2
    exact goneE_nil (HB3.out n)
set_option maxRecDepth 100000 in
set_option maxHeartbeats 4000000 in
theorem leave_any (h : Rep w own tb L t) (hl : Lim t) (n : Int) (f : Tr.F) (hs : f.s.size ≤ 9223372036854775807) : Calls Try.prog 19 #[ptr tb, .int .i64 n, flV f] w (goneE w own tb (Tr.leave t n f)) := by
  unfold Tr.leave
  have HG1 : Hid (∀ o, Gone w own tb t (w.alloc o)) := Lib.hid fun o => h.goneB (one _ _)
  have V : Hid (∀ w, Calls Try.prog 56 #[flV f] w (still w (.bool (Tr.validB f)))) := Lib.hid fun w => valid_any f w hs
  have HG2 : Hid (∀ o w2, Below (w.alloc o).heap.size (w.alloc o) w2 → Gone w own tb t w2) := Lib.hid fun o w2 hb => h.goneB ((one w o).trans (hb.mono (by simp)))
  unfold still at V
  by_cases hrc : Tr.rc t n ≠ 0
  · rw [if_pos hrc]
    have A : Hid (∀ o, Calls Try.prog 55 #[ptr tb, .int .i64 n] (w.alloc o) (same (w.alloc o) (.tuple #[.pointer none, .int .i64 6]))) := Lib.hid fun o => (running_no (h.below (one _ _)) hrc).2
    rw [(running_no h hrc).1]
    unfold same at A
    unfold flV
    clear h hl hrc V
    go_enter Try.func19, Try.ntmps19
    go_wp2_with fail
    refine (A.out _).mono ?_
    rintro e w2 ⟨rfl, rfl⟩
    go_wp2
    go_ret2
    exact goneE_nil (HG1.out _)
  · rw [if_neg hrc]
    obtain ⟨i, x, rfl, hx, hd, htk⟩ := rc_zero hrc
    have A : Hid (∀ o, Calls Try.prog 55 #[ptr tb, .int .i64 ((i : Int) + 1)] (w.alloc o) (same (w.alloc o) (.tuple #[tkP L i, .int .i64 0]))) := Lib.hid fun o => running_ok (h.below (one _ _)) hx hd
    unfold same tkP at A
    by_cases hv : Tr.validB f = false
    · rw [if_pos hv]
      rw [hv] at V
      unfold flV at *
      clear h hl hrc hx hd htk hv
      go_enter Try.func19, Try.ntmps19
      go_wp2_with fail
      refine (A.out _).mono ?_
      rintro e w2 ⟨rfl, rfl⟩
      have c0 := (Blk.new w #[.int .i64 f.k, .string f.s] 37).cell 0 _ rfl
      have c1 := (Blk.new w #[.int .i64 f.k, .string f.s] 37).cell 1 _ rfl
      go_wp2_with fail
      refine (V.out _).mono ?_
      rintro e w3 ⟨rfl, hb3⟩
      have HG3 := Lib.hid (HG2.out _ _ hb3)
      clear hb3 c0 c1
      go_wp2
      go_ret2
      exact goneE_nil HG3.out
    · rw [if_neg hv]
      have hv' : Tr.validB f = true := by simpa using hv
      simp only [htk, to_i]
      have hpl := leave_place h f hs hx hd hv'
      have hm : ∀ j, x.op.getLast? = some (some j) → x.leav = false → ∃ y, t.ss[j]? = some y := fun j ho _ => ⟨_, List.getElem?_eq_getElem (h.rng.op i x j hx (List.mem_of_getLast? ho))⟩
      cases ho : x.op.getLast? with
      | none => exact hpl (.inr fun j e => by rw [ho] at e; cases e)
      | some s =>
        cases s with
        | none => exact hpl (.inr fun j e => by rw [ho] at e; cases e)
        | some j =>
          cases hlv : x.leav with
          | true => exact hpl (.inl hlv)
          | false =>
            obtain ⟨y, hy⟩ := hm j ho hlv
            have hk := valid_plain hv'
            have hk1 : f.k = 1 ∨ f.k = 0 ∨ f.k = 2 := by
              by_cases h1 : f.k = 1
              · exact .inl h1
              · exact .inr (hk h1).1
            have et : Tr.take t j f = Tr.setS t j (Tr.taken y f) := by unfold Tr.take; rw [hy]
            have ey : (Tr.setS t j (Tr.taken y f)).ss[j]? = some (Tr.taken y f) := by simp [Tr.setS, (List.getElem?_eq_some_iff.1 hy).1]
            simp only [if_neg (show ¬ (false = true) by simp)]
            rcases hk1 with hk1 | hk1 | hk1
            · simp only [if_pos hk1, et, ey]
              cases hb : Tr.busy (Tr.setS t j (Tr.taken y f)) (Tr.taken y f) with
              | true => simpa [hk1] using leave_k1y h hl f hs hx hd hv' hlv ho hy hk1 hb
              | false => simpa [hk1] using leave_k1n h hl f hs hx hd hv' hlv ho hy hk1 hb
            · simpa [hk1, hy] using leave_k0 h hl f hs hx hd hv' hlv ho hy hk1
            · cases hb : Tr.busy t y with
              | true => simpa [hk1, hy, hb] using leave_k2y h hl f hs hx hd hv' hlv ho hy hk1 hb
              | false => simpa [hk1, hy, hb] using leave_k2n h hl f hs hx hd hv' hlv ho hy hk1 hb
end
end Go.Proofs.Ytcegmdlmnibheaa
