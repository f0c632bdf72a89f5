/- Tasks and scopes by their numbers. -/
import Derived.Test.YtcegmdlmnibheaaRep2
namespace Go.Proofs.Ytcegmdlmnibheaa
set_option linter.unusedVariables false
set_option linter.unusedSimpArgs false
open Go.RowKit

def still (w : World) (v : Value) (e : Ending) (w' : World) : Prop := e = .returned v ∧ Below w.heap.size w w'
def same (w : World) (v : Value) (e : Ending) (w' : World) : Prop := e = .returned v ∧ w = w'

section
variable {w : World} {own : Own} {tb : Nat} {L : Lay} {t : Tr.T}
set_option maxRecDepth 100000 in
theorem find_row_no (f : Nat) (hf : f = 95 ∨ f = 96) (p : Option Addr) (l cap : Nat) (n : Int) (h : n < 1 ∨ (l : Int) < n) (w : World) :
    Calls Try.prog f #[.slice p l cap, .int .i64 n] w (same w (.tuple #[.pointer none, .int .i64 6])) := by
  unfold same
  rcases hf with rfl | rfl
  · by_cases h1 : n < 1
    · go_enter Try.func95, Try.ntmps95
      go_wp2
      go_ret2
      exact ⟨rfl, rfl⟩
    · have h2 : (l : Int) < n := by omega
      go_enter Try.func95, Try.ntmps95
      go_wp2
      go_ret2
      exact ⟨rfl, rfl⟩
  · by_cases h1 : n < 1
    · go_enter Try.func96, Try.ntmps96
      go_wp2
      go_ret2
      exact ⟨rfl, rfl⟩
    · have h2 : (l : Int) < n := by omega
      go_enter Try.func96, Try.ntmps96
      go_wp2
      go_ret2
      exact ⟨rfl, rfl⟩
set_option maxRecDepth 100000 in
theorem find_row_ok (f : Nat) (hf : f = 95 ∨ f = 96) (g l cap i : Nat) (b : Nat) (hi : i < l) (hlc : l ≤ cap) (hc : cap ≤ maxLen) (w : World) (hcell : w.cell? ⟨g, i, none⟩ = some (ptr b)) :
    Calls Try.prog f #[.slice (some ⟨g, 0, none⟩) l cap, .int .i64 ((i : Int) + 1)] w (same w (.tuple #[ptr b, .int .i64 0])) := by
  unfold same
  unfold maxLen at hc
  have e1 : IntKind.i64.wrap ((i : Int) + 1 - 1) = (i : Int) := by rw [IntWalk.i64_in _ (by omega)]; omega
  have e2 : (i : Int) + 1 - 1 = (i : Int) := by omega
  have h1 : ¬ ((i : Int) + 1 < 1) := by omega
  have h2 : ¬ ((l : Int) < (i : Int) + 1) := by omega
  have h3 : (i : Int) < (l : Int) := by omega
  rcases hf with rfl | rfl
  · go_enter Try.func95, Try.ntmps95
    go_wp2
    go_ret2
    exact ⟨rfl, rfl⟩
  · go_enter Try.func96, Try.ntmps96
    go_wp2
    go_ret2
    exact ⟨rfl, rfl⟩
theorem Rep.tform (h : Rep w own tb L t) : ∃ p cap, L.tv = .slice p t.ts.length cap ∧ t.ts.length ≤ cap ∧ cap ≤ maxLen ∧ (0 < t.ts.length → ∃ g, p = some ⟨g, 0, none⟩ ∧ g < w.heap.size ∧ ∀ i, i < t.ts.length → w.cell? ⟨g, i, none⟩ = some (tkP L i)) := by
  obtain ⟨p, cap, e, h1, h2, h3⟩ := owns_form h.trow
  refine ⟨p, cap, e, h1, h2, fun hp => ?_⟩
  obtain ⟨g, e2, h4, h5⟩ := h3 hp
  exact ⟨g, e2, h4, fun i hi => h5 i _ (by rw [List.getElem?_map, List.getElem?_range hi]; rfl)⟩
theorem Rep.sform (h : Rep w own tb L t) : ∃ p cap, L.sv = .slice p t.ss.length cap ∧ t.ss.length ≤ cap ∧ cap ≤ maxLen ∧ (0 < t.ss.length → ∃ g, p = some ⟨g, 0, none⟩ ∧ g < w.heap.size ∧ ∀ i, i < t.ss.length → w.cell? ⟨g, i, none⟩ = some (scP L (some i))) := by
  obtain ⟨p, cap, e, h1, h2, h3⟩ := owns_form h.srow
  refine ⟨p, cap, e, h1, h2, fun hp => ?_⟩
  obtain ⟨g, e2, h4, h5⟩ := h3 hp
  exact ⟨g, e2, h4, fun i hi => h5 i _ (by rw [List.getElem?_map, List.getElem?_range hi]; rfl)⟩

/-- What stands at a number. -/
theorem tk_some {n : Int} {x : Tr.Tk} (h : Tr.tk t n = some x) : ∃ i : Nat, n = (i : Int) + 1 ∧ t.ts[i]? = some x := by
  unfold Tr.tk at h
  split at h
  · exact ⟨(n - 1).toNat, by omega, h⟩
  · cases h
theorem tk_none {n : Int} (h : Tr.tk t n = none) : n < 1 ∨ (t.ts.length : Int) < n := by
  unfold Tr.tk at h
  split at h
  · have := List.getElem?_eq_none_iff.1 h; omega
  · omega
theorem tk_at {i : Nat} {x : Tr.Tk} (h : t.ts[i]? = some x) : Tr.tk t ((i : Int) + 1) = some x := by
  unfold Tr.tk
  rw [if_pos (by omega), show ((i : Int) + 1 - 1).toNat = i by omega, h]
theorem scp_some {n : Int} {x : Tr.Sc} (h : Tr.scp t n = some x) : ∃ i : Nat, n = (i : Int) + 1 ∧ t.ss[i]? = some x := by
  unfold Tr.scp at h
  split at h
  · exact ⟨(n - 1).toNat, by omega, h⟩
  · cases h
theorem scp_none {n : Int} (h : Tr.scp t n = none) : n < 1 ∨ (t.ss.length : Int) < n := by
  unfold Tr.scp at h
  split at h
  · have := List.getElem?_eq_none_iff.1 h; omega
  · omega

set_option maxRecDepth 100000 in
theorem task_ok (h : Rep w own tb L t) {i : Nat} {x : Tr.Tk} (hx : t.ts[i]? = some x) : Calls Try.prog 63 #[ptr tb, .int .i64 ((i : Int) + 1)] w (same w (.tuple #[tkP L i, .int .i64 0])) := by
  obtain ⟨p, cap, e, h1, h2, h3⟩ := h.tform
  have hi : i < t.ts.length := (List.getElem?_eq_some_iff.1 hx).1
  obtain ⟨g, rfl, h4, h5⟩ := h3 (by omega)
  have c0 := h.blk.cell 0 _ rfl
  rw [e] at c0
  have A := Lib.hid (find_row_ok 96 (.inr rfl) g t.ts.length cap i (L.tk i) hi h1 h2 w (h5 i hi))
  unfold same at A ⊢
  generalize t.ts.length = l at *
  clear h h1 h2 h3 h5 e hx hi
  go_enter Try.func63, Try.ntmps63
  go_wp2_with fail
  refine A.out.mono ?_
  rintro e w2 ⟨rfl, rfl⟩
  go_wp2
  go_ret2
  exact ⟨rfl, rfl⟩
set_option maxRecDepth 100000 in
theorem task_no (h : Rep w own tb L t) {n : Int} (hn : Tr.tk t n = none) : Calls Try.prog 63 #[ptr tb, .int .i64 n] w (same w (.tuple #[.pointer none, .int .i64 6])) := by
  obtain ⟨p, cap, e, h1, h2, h3⟩ := h.tform
  have c0 := h.blk.cell 0 _ rfl
  rw [e] at c0
  have A := Lib.hid (find_row_no 96 (.inr rfl) p t.ts.length cap n (tk_none hn) w)
  unfold same at A ⊢
  generalize t.ts.length = l at *
  clear h h1 h2 h3 e hn
  go_enter Try.func63, Try.ntmps63
  go_wp2_with fail
  refine A.out.mono ?_
  rintro e w2 ⟨rfl, rfl⟩
  go_wp2
  go_ret2
  exact ⟨rfl, rfl⟩
set_option maxRecDepth 100000 in
theorem scope_ok (h : Rep w own tb L t) {i : Nat} {x : Tr.Sc} (hx : t.ss[i]? = some x) : Calls Try.prog 62 #[ptr tb, .int .i64 ((i : Int) + 1)] w (same w (.tuple #[scP L (some i), .int .i64 0])) := by
  obtain ⟨p, cap, e, h1, h2, h3⟩ := h.sform
  have hi : i < t.ss.length := (List.getElem?_eq_some_iff.1 hx).1
  obtain ⟨g, rfl, h4, h5⟩ := h3 (by omega)
  have c0 := h.blk.cell 1 _ rfl
  rw [e] at c0
  have A := Lib.hid (find_row_ok 95 (.inl rfl) g t.ss.length cap i (L.sc i) hi h1 h2 w (h5 i hi))
  unfold scP
  unfold same at A ⊢
  generalize t.ss.length = l at *
  clear h h1 h2 h3 h5 e hx hi
  go_enter Try.func62, Try.ntmps62
  go_wp2_with fail
  refine A.out.mono ?_
  rintro e w2 ⟨rfl, rfl⟩
  go_wp2
  go_ret2
  exact ⟨rfl, rfl⟩
set_option maxRecDepth 100000 in
theorem scope_no (h : Rep w own tb L t) {n : Int} (hn : Tr.scp t n = none) : Calls Try.prog 62 #[ptr tb, .int .i64 n] w (same w (.tuple #[.pointer none, .int .i64 6])) := by
  obtain ⟨p, cap, e, h1, h2, h3⟩ := h.sform
  have c0 := h.blk.cell 1 _ rfl
  rw [e] at c0
  have A := Lib.hid (find_row_no 95 (.inl rfl) p t.ss.length cap n (scp_none hn) w)
  unfold same at A ⊢
  generalize t.ss.length = l at *
  clear h h1 h2 h3 e hn
  go_enter Try.func62, Try.ntmps62
  go_wp2_with fail
  refine A.out.mono ?_
  rintro e w2 ⟨rfl, rfl⟩
  go_wp2
  go_ret2
  exact ⟨rfl, rfl⟩

set_option maxRecDepth 100000 in
theorem running_ok (h : Rep w own tb L t) {i : Nat} {x : Tr.Tk} (hx : t.ts[i]? = some x) (hd : x.done = false) : Calls Try.prog 55 #[ptr tb, .int .i64 ((i : Int) + 1)] w (same w (.tuple #[tkP L i, .int .i64 0])) := by
  have A := Lib.hid (task_ok h hx)
  have c1 := (h.tk i x hx).blk.cell 1 _ rfl
  rw [hd] at c1
  unfold same at A ⊢
  clear h hx hd
  go_enter Try.func55, Try.ntmps55
  go_wp2_with fail
  refine A.out.mono ?_
  rintro e w2 ⟨rfl, rfl⟩
  go_wp2
  go_ret2
  exact ⟨rfl, rfl⟩
set_option maxRecDepth 100000 in
theorem running_no (h : Rep w own tb L t) {n : Int} (hn : Tr.rc t n ≠ 0) : Tr.rc t n = 6 ∧ Calls Try.prog 55 #[ptr tb, .int .i64 n] w (same w (.tuple #[.pointer none, .int .i64 6])) := by
  unfold Tr.rc at *
  cases hx : Tr.tk t n with
  | none =>
    refine ⟨rfl, ?_⟩
    have A := Lib.hid (task_no h hx)
    unfold same at A ⊢
    clear h hx hn
    go_enter Try.func55, Try.ntmps55
    go_wp2_with fail
    refine A.out.mono ?_
    rintro e w2 ⟨rfl, rfl⟩
    go_wp2
    go_ret2
    exact ⟨rfl, rfl⟩
  | some x =>
    rw [hx] at hn
    have hd : x.done = true := by simpa using hn
    refine ⟨by simp [hd], ?_⟩
    obtain ⟨i, rfl, hi⟩ := tk_some hx
    have A := Lib.hid (task_ok h hi)
    have c1 := (h.tk i x hi).blk.cell 1 _ rfl
    rw [hd] at c1
    unfold same at A ⊢
    clear h hx hd hi hn
    go_enter Try.func55, Try.ntmps55
    go_wp2_with fail
    refine A.out.mono ?_
    rintro e w2 ⟨rfl, rfl⟩
    go_wp2
    go_ret2
    exact ⟨rfl, rfl⟩
set_option maxRecDepth 100000 in
theorem acting_ok (h : Rep w own tb L t) {i : Nat} {x : Tr.Tk} (hx : t.ts[i]? = some x) (hd : x.done = false) (hl : x.leav = false) : Calls Try.prog 53 #[ptr tb, .int .i64 ((i : Int) + 1)] w (same w (.tuple #[tkP L i, .int .i64 0])) := by
  have A := Lib.hid (running_ok h hx hd)
  have c1 := (h.tk i x hx).blk.cell 6 _ rfl
  rw [hl] at c1
  unfold same at A ⊢
  clear h hx hd hl
  go_enter Try.func53, Try.ntmps53
  go_wp2_with fail
  refine A.out.mono ?_
  rintro e w2 ⟨rfl, rfl⟩
  go_wp2
  go_ret2
  exact ⟨rfl, rfl⟩
set_option maxRecDepth 100000 in
theorem acting_no (h : Rep w own tb L t) {n : Int} (hn : Tr.ac t n ≠ 0) : Calls Try.prog 53 #[ptr tb, .int .i64 n] w (same w (.tuple #[.pointer none, .int .i64 (Tr.ac t n)])) := by
  by_cases hr : Tr.rc t n ≠ 0
  · have e6 : Tr.ac t n = 6 := by
      unfold Tr.rc at hr
      unfold Tr.ac
      cases hx : Tr.tk t n with
      | none => rfl
      | some x => rw [hx] at hr; have hd : x.done = true := by simpa using hr
                  simp [hd]
    rw [e6]
    have A := Lib.hid (running_no h hr).2
    unfold same at A ⊢
    clear h hr hn e6
    go_enter Try.func53, Try.ntmps53
    go_wp2_with fail
    refine A.out.mono ?_
    rintro e w2 ⟨rfl, rfl⟩
    go_wp2
    go_ret2
    exact ⟨rfl, rfl⟩
  · unfold Tr.rc at hr
    unfold Tr.ac at *
    cases hx : Tr.tk t n with
    | none => rw [hx] at hr; simp at hr
    | some x =>
      rw [hx] at hr hn
      have hd : x.done = false := by simpa using hr
      have hl : x.leav = true := by simpa [hd] using hn
      simp only [hd, hl, if_true, Bool.false_eq_true, if_false]
      obtain ⟨i, rfl, hi⟩ := tk_some hx
      have A := Lib.hid (running_ok h hi hd)
      have c1 := (h.tk i x hi).blk.cell 6 _ rfl
      rw [hl] at c1
      unfold same at A ⊢
      clear h hx hd hl hi hn hr
      go_enter Try.func53, Try.ntmps53
      go_wp2_with fail
      refine A.out.mono ?_
      rintro e w2 ⟨rfl, rfl⟩
      go_wp2
      go_ret2
      exact ⟨rfl, rfl⟩
end
end Go.Proofs.Ytcegmdlmnibheaa
