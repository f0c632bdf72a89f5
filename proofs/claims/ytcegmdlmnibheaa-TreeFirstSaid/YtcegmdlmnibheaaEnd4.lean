/- What End does, whatever the case. -/
import Derived.Test.YtcegmdlmnibheaaEnd1
import Derived.Test.YtcegmdlmnibheaaEnd2
import Derived.Test.YtcegmdlmnibheaaEnd3
namespace Go.Proofs.Ytcegmdlmnibheaa
set_option linter.unusedVariables false
set_option linter.unusedSimpArgs false
open Go.RowKit
section
variable {w : World} {own : Own} {tb : Nat} {L : Lay} {t : Tr.T}
set_option maxRecDepth 100000 in
set_option maxHeartbeats 4000000 in
theorem end_any (h : Rep w own tb L t) (hl : Lim t) (n : Int) (f : Tr.F) (hs : f.s.size ≤ 9223372036854775807) : Calls Try.prog 18 #[ptr tb, .int .i64 n, flV f] w (goneE w own tb (Tr.end_ t n f)) := by
  unfold Tr.end_
  have HG1 : Hid (∀ o, Gone w own tb t (w.alloc o)) := Lib.hid fun o => h.goneB (one _ _)
  have V : Hid (∀ w, Calls Try.prog 56 #[flV f] w (still w (.bool (Tr.validB f)))) := Lib.hid fun w => valid_any f w hs
  have HG2 : Hid (∀ o w2, Below (w.alloc o).heap.size (w.alloc o) w2 → Gone w own tb t w2) := Lib.hid fun o w2 hb => h.goneB ((one w o).trans (hb.mono (by simp)))
  unfold still at V
  by_cases hrc : Tr.rc t n ≠ 0
  · rw [if_pos hrc]
    have A : Hid (∀ o, Calls Try.prog 55 #[ptr tb, .int .i64 n] (w.alloc o) (same (w.alloc o) (.tuple #[.pointer none, .int .i64 6]))) := Lib.hid fun o => (running_no (h.below (one _ _)) hrc).2
    rw [(running_no h hrc).1]
    unfold same at A
    unfold flV
    clear h hl hrc V
    go_enter Try.func18, Try.ntmps18
    go_wp2_with fail
    refine (A.out _).mono ?_
    rintro e w2 ⟨rfl, rfl⟩
    go_wp2
    go_ret2
    exact goneE_nil (HG1.out _)
  · rw [if_neg hrc]
    obtain ⟨i, x, rfl, hx, hd, htk⟩ := rc_zero hrc
    have A : Hid (∀ o, Calls Try.prog 55 #[ptr tb, .int .i64 ((i : Int) + 1)] (w.alloc o) (same (w.alloc o) (.tuple #[tkP L i, .int .i64 0]))) := Lib.hid fun o => running_ok (h.below (one _ _)) hx hd
    unfold same tkP at A
    by_cases hv : Tr.validB f = false
    · rw [if_pos hv]
      rw [hv] at V
      unfold flV at *
      clear h hl hrc hx hd htk hv
      go_enter Try.func18, Try.ntmps18
      go_wp2_with fail
      refine (A.out _).mono ?_
      rintro e w2 ⟨rfl, rfl⟩
      have c0 := (Blk.new w #[.int .i64 f.k, .string f.s] 37).cell 0 _ rfl
      have c1 := (Blk.new w #[.int .i64 f.k, .string f.s] 37).cell 1 _ rfl
      go_wp2_with fail
      refine (V.out _).mono ?_
      rintro e w3 ⟨rfl, hb3⟩
      have HG3 := Lib.hid (HG2.out _ _ hb3)
      clear hb3 c0 c1
      go_wp2
      go_ret2
      exact goneE_nil HG3.out
    · rw [if_neg hv]
      have hv' : Tr.validB f = true := by simpa using hv
      simp only [htk, to_i]
      by_cases ho : x.op ≠ []
      · rw [if_pos ho]
        rw [hv'] at V
        obtain ⟨p, cap, e, h1, h2, h3⟩ := (h.tk i x hx).form
        have hlen : 0 < x.op.length := List.length_pos_iff.2 ho
        have hB := (h.tk i x hx).blk
        have hc := hB.cell 5 _ rfl
        rw [e] at hc
        have C5 : Hid (∀ o w2, Below (w.alloc o).heap.size (w.alloc o) w2 → w2.cell? ⟨L.tk i, 5, none⟩ = some (.slice p x.op.length cap) ∧ L.tk i < w2.heap.size) := Lib.hid fun o w2 hb => ⟨cell_of ((one w o).trans (hb.mono (by simp))) hc, by have := hb.size; have := hB.lt; simp at *; omega⟩
        have hlen' : (0 : Int) < (x.op.length : Int) := by omega
        generalize x.op.length = l at *
        unfold flV at *
        clear h hl hrc hx hd htk hv hv' ho e h3 hc hB
        go_enter Try.func18, Try.ntmps18
        go_wp2_with fail
        refine (A.out _).mono ?_
        rintro e w2 ⟨rfl, rfl⟩
        have c0 := (Blk.new w #[.int .i64 f.k, .string f.s] 37).cell 0 _ rfl
        have c1 := (Blk.new w #[.int .i64 f.k, .string f.s] 37).cell 1 _ rfl
        go_wp2_with fail
        refine (V.out _).mono ?_
        rintro e w3 ⟨rfl, hb3⟩
        have HG3 := Lib.hid (HG2.out _ _ hb3)
        obtain ⟨q5, q6⟩ := C5.out _ _ hb3
        clear hb3 c0 c1
        go_wp2
        go_ret2
        exact goneE_nil HG3.out
      · rw [if_neg ho]
        have ho' : x.op = [] := by simpa using ho
        obtain ⟨x1, hx1⟩ : ∃ x1 : Tr.Tk, { x with done := true, flt := f } = x1 := ⟨_, rfl⟩
        rw [hx1]
        have E0 := fun hsc => end_root h hl f hs hx hd hv' ho' hsc
        have E1 := fun (j : Nat) (y : Tr.Sc) (hsc : x.sc = some j) (hy : t.ss[j]? = some y) => end_p1 h hl f hs hx hd hv' ho' hsc hy
        have E2 := fun (j : Nat) (y : Tr.Sc) (hsc : x.sc = some j) (hy : t.ss[j]? = some y) => end_p2 h hl f hs hx hd hv' ho' hsc hy
        have E3 := fun (j : Nat) (y : Tr.Sc) (hsc : x.sc = some j) (hy : t.ss[j]? = some y) => end_p3 h hl f hs hx hd hv' ho' hsc hy
        have E4 := fun (j : Nat) (y : Tr.Sc) (hsc : x.sc = some j) (hy : t.ss[j]? = some y) => end_p4 h hl f hs hx hd hv' ho' hsc hy
        rw [hx1] at E0 E1 E2 E3 E4
        have hrng := h.rng.sc i x
        cases hsc : x.sc with
        | none => exact E0 hsc
        | some j =>
          obtain ⟨y, hy⟩ : ∃ y, t.ss[j]? = some y := ⟨_, List.getElem?_eq_getElem (hrng j hx hsc)⟩
          have hy1 : (Tr.setT t i x1).ss[j]? = some y := hy
          simp only [hy1]
          by_cases hk : f.k = 1
          · by_cases hsp : y.sup = false
            · by_cases hyk : y.flt.k = 0
              · rw [if_pos ⟨hk, hsp, hyk⟩]
                exact E4 j y hsc hy hk hsp (by simp [Tr.takes, hyk])
              · rw [if_neg (fun hh => hyk hh.2.2)]
                exact E3 j y hsc hy hk hsp (by simpa [Tr.takes] using hyk)
            · rw [if_neg (fun hh => hsp hh.2.1)]
              exact E2 j y hsc hy hk (by simpa using hsp)
          · rw [if_neg (fun hh => hk hh.1)]
            exact E1 j y hsc hy hk
end
end Go.Proofs.Ytcegmdlmnibheaa
