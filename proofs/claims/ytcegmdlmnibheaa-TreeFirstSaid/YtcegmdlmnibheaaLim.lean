/- The limits of a tree. -/
import Derived.Test.YtcegmdlmnibheaaAdd
namespace Go.Proofs.Ytcegmdlmnibheaa
set_option linter.unusedVariables false
set_option linter.unusedSimpArgs false
open Go.RowKit
structure Lim (t : Tr.T) : Prop where
  n : t.ts.length ≤ 64
  m : t.ss.length ≤ 200
  k : ∀ (j : Nat) (y : Tr.Sc), t.ss[j]? = some y → y.tks.length ≤ t.ts.length
  o : ∀ (i : Nat) (x : Tr.Tk), t.ts[i]? = some x → Tr.shields x ≤ 40 ∧ x.op.length ≤ Tr.shields x + t.ss.length
theorem Lim.op {t : Tr.T} (h : Lim t) {i : Nat} {x : Tr.Tk} (hx : t.ts[i]? = some x) : x.op.length ≤ 240 := by
  have := h.o i x hx; have := h.m; omega
theorem Lim.tks {t : Tr.T} (h : Lim t) (j : Nat) (y : Tr.Sc) (hy : t.ss[j]? = some y) : y.tks.length ≤ 1000000 := by
  have := h.k j y hy; have := h.n; omega

/-- A call has returned two numbers, and the tree is another one. -/
def goneII (w : World) (own : Own) (tb : Nat) (r : Tr.T × Int × Int) (e : Ending) (w' : World) : Prop := e = .returned (.tuple #[.int .i64 r.2.1, .int .i64 r.2.2]) ∧ Gone w own tb r.1 w'
def goneI (w : World) (own : Own) (tb : Nat) (r : Tr.T × Int) (e : Ending) (w' : World) : Prop := e = .returned (.int .i64 r.2) ∧ Gone w own tb r.1 w'
section
variable {w : World} {own : Own} {tb : Nat} {L : Lay} {t : Tr.T}
theorem Rep.gone (h : Rep w own tb L t) : Gone w own tb t w := ⟨own, L, h, fun _ _ => rfl, Fr.refl _ _⟩
theorem Rep.goneB {w' : World} (h : Rep w own tb L t) (hb : Below w.heap.size w w') : Gone w own tb t w' := ⟨own, L, h.below hb, fun _ _ => rfl, Fr.of_below hb⟩
theorem add_pub (h : Rep w own tb L t) (hl : Lim t) (s : Option Nat) (hs : ∀ j, s = some j → j < t.ss.length) : Calls Try.prog 39 #[ptr tb, scP L s] w (goneII w own tb (Tr.add t s)) := by
  unfold goneII Tr.add
  by_cases hf : 64 ≤ t.ts.length
  · rw [if_pos hf]
    have hq : ∃ q, scP L s = .pointer q := by cases s <;> exact ⟨_, rfl⟩
    obtain ⟨q, hq⟩ := hq
    rw [hq]
    exact (add_full h q hf (by have := hl.n; omega)).mono fun e w' hp => ⟨hp.1, by rw [← hp.2]; exact h.gone⟩
  · rw [if_neg hf]
    exact (add_any h s hs hl.tks (by omega)).mono fun e w' hp => ⟨hp.1, hp.2⟩
set_option maxRecDepth 100000 in
theorem root_any (h : Rep w own tb L t) (hl : Lim t) : Calls Try.prog 21 #[ptr tb] w (goneII w own tb (Tr.root t)) := by
  have A := Lib.hid (add_pub h hl none (by simp))
  unfold scP at A
  unfold goneII Tr.root at *
  clear h hl
  go_enter Try.func21, Try.ntmps21
  go_wp2_with fail
  refine A.out.mono ?_
  rintro e w2 ⟨rfl, hG⟩
  have HG := Lib.hid hG
  clear hG
  go_wp2
  go_ret2
  exact ⟨rfl, HG.out⟩
theorem ac_zero {n : Int} (h : ¬ Tr.ac t n ≠ 0) : ∃ (i : Nat) (x : Tr.Tk), n = (i : Int) + 1 ∧ t.ts[i]? = some x ∧ x.done = false ∧ x.leav = false ∧ Tr.tk t n = some x := by
  unfold Tr.ac at h
  cases hx : Tr.tk t n with
  | none => rw [hx] at h; simp at h
  | some x =>
    rw [hx] at h
    obtain ⟨i, hi, hxi⟩ := tk_some hx
    by_cases hd : x.done = true
    · simp [hd] at h
    · by_cases hv : x.leav = true
      · simp [hd, hv] at h
      · exact ⟨i, x, hi, hxi, by simpa using hd, by simpa using hv, rfl⟩
theorem rc_zero {n : Int} (h : ¬ Tr.rc t n ≠ 0) : ∃ (i : Nat) (x : Tr.Tk), n = (i : Int) + 1 ∧ t.ts[i]? = some x ∧ x.done = false ∧ Tr.tk t n = some x := by
  unfold Tr.rc at h
  cases hx : Tr.tk t n with
  | none => rw [hx] at h; simp at h
  | some x =>
    rw [hx] at h
    obtain ⟨i, hi, hxi⟩ := tk_some hx
    by_cases hd : x.done = true
    · simp [hd] at h
    · exact ⟨i, x, hi, hxi, by simpa using hd, rfl⟩
theorem to_i (i : Nat) : ((i : Int) + 1 - 1).toNat = i := by omega
end
end Go.Proofs.Ytcegmdlmnibheaa
