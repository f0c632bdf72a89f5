/- A scope is over, if it can be. -/
import Derived.Test.YtcegmdlmnibheaaBusy
import Derived.Test.YtcegmdlmnibheaaUnlink
namespace Go.Proofs.Ytcegmdlmnibheaa
set_option linter.unusedVariables false
set_option linter.unusedSimpArgs false
open Go.RowKit

def efC (e : Tr.E) : List Value := [.int .i64 e.k, .int .i64 e.n, .int .i64 e.m, .int .i64 e.f.k, .string e.f.s]
/-- The tree has become another one, and there are effects, in new memory. -/
def GoneE (w : World) (own : Own) (tb : Nat) (t : Tr.T) (es : List Tr.E) (v : Value) (w' : World) : Prop :=
  ∃ own' L', Rep w' own' tb L' t ∧ (∀ k, k < w.heap.size → own' k = own k) ∧ Fr (fun k => own k ≠ none) w w' ∧ w'.ownsRow w.heap.size 76 5 v es.length (es.flatMap efC) ∧ (∀ k, v.ownBlock = some k → own' k = none)
/-- What one call after another has made. -/
structure Step (w : World) (own : Own) (w' : World) (own' : Own) : Prop where
  keep : ∀ k, k < w.heap.size → own' k = own k
  fr : Fr (fun k => own k ≠ none) w w'
theorem Step.refl (w : World) (own : Own) : Step w own w own := ⟨fun _ _ => rfl, Fr.refl _ _⟩
theorem Step.trans {a b c : World} {o p q : Own} (h : Step a o b p) (k : Step b p c q) : Step a o c q :=
  ⟨fun i hi => (k.keep i (Nat.lt_of_lt_of_le hi h.fr.size)).trans (h.keep i hi), h.fr.thenL k.fr fun x hx => by
    by_cases hl : x < a.heap.size
    · rw [h.keep x hl] at hx; exact .inl hx
    · exact .inr (by omega)⟩
theorem Step.below {a b : World} {o : Own} (h : Below a.heap.size a b) : Step a o b o := ⟨fun _ _ => rfl, Fr.of_below h⟩
theorem Step.of_fr {a b : World} {o : Own} {S : Nat → Prop} (h : Fr S a b) (hS : ∀ k, S k → o k ≠ none) : Step a o b o := ⟨fun _ _ => rfl, h.widen fun k hk _ => hS k hk⟩
theorem Step.size {a b : World} {o p : Own} (h : Step a o b p) : a.heap.size ≤ b.heap.size := h.fr.size

section
variable {w : World} {own : Own} {tb : Nat} {L : Lay} {t : Tr.T}
theorem Rep.sc_ne (h : Rep w own tb L t) {j j' : Nat} (hj : j < t.ss.length) (hj' : j' < t.ss.length) (hne : j ≠ j') : L.sc j ≠ L.sc j' := fun e => by
  have h1 := (h.sc j _ (List.getElem?_eq_getElem hj)).mine
  have h2 := (h.sc j' _ (List.getElem?_eq_getElem hj')).mine
  rw [e, h2] at h1
  simp at h1
  exact hne h1.symm
theorem Rep.sc_tk (h : Rep w own tb L t) {j i : Nat} (hj : j < t.ss.length) (hi : i < t.ts.length) : L.sc j ≠ L.tk i := fun e => by
  have h1 := (h.sc j _ (List.getElem?_eq_getElem hj)).mine
  have h2 := (h.tk i _ (List.getElem?_eq_getElem hi)).mine
  rw [e, h2] at h1
  simp at h1
def finNo (w : World) (own : Own) (tb : Nat) (L : Lay) (t : Tr.T) (e : Ending) (w' : World) : Prop := e = .returned (.slice none 0 0) ∧ Rep w' own tb L t ∧ Below w.heap.size w w'

theorem drewN_below (w : World) (n : Nat) : Below w.heap.size w (w.drewN n) := below_drewN (Below.refl _ _) n

/-- The innermost link, as a pointer. -/
theorem inner_any (h : Rep w own tb L t) {i : Nat} {x : Tr.Tk} (hx : t.ts[i]? = some x) :
    Calls Try.prog 60 #[tkP L i] w fun e w' => e = .returned (.tuple #[scP L (x.op.getLast?.getD none), .bool x.op.getLast?.isSome]) ∧ ∃ n, w' = w.drewN n := by
  cases ho : x.op.getLast? with
  | none =>
    have : x.op = [] := by simpa using ho
    exact (inner_none h hx this).mono fun e w' hp => ⟨hp.1, 0, hp.2.symm⟩
  | some s => exact inner_some h hx ho

set_option maxRecDepth 100000 in
set_option maxHeartbeats 4000000 in
theorem finish_no (h : Rep w own tb L t) {j : Nat} {y : Tr.Sc} {x : Tr.Tk} (hy : t.ss[j]? = some y) (hx : t.ts[y.own]? = some x) (hl20 : y.tks.length ≤ 1000000) (hn : Tr.ends t j x y = false) :
    Calls Try.prog 59 #[scP L (some j)] w (finNo w own tb L t) := by
  unfold finNo
  have A := Lib.hid (inner_any h hx)
  have hjl : j < t.ss.length := (List.getElem?_eq_some_iff.1 hy).1
  have c4 := (h.sc j y hy).blk.cell 4 _ rfl
  have c6 := (h.tk _ x hx).blk.cell 6 _ rfl
  have hlt := (h.sc j y hy).blk.lt
  have hlt2 := (h.tk _ x hx).blk.lt
  unfold Tr.ends at hn
  have HR := Lib.hid h
  have HY := Lib.hid hy
  have hsame := neq_same
  have hnil := neq_nil
  unfold tkP at c4 A
  unfold scP
  by_cases hl : x.leav = true
  · rw [hl] at c6
    by_cases ho : x.op.getLast? = some (some j)
    · have hb : Tr.busy t y = true := by simpa [hl, ho] using hn
      rw [ho] at A
      unfold scP at A
      simp only [Option.getD_some, Option.isSome_some] at A
      have HBZ : Hid (∀ n, Calls Try.prog 61 #[ptr (L.sc j)] (w.drewN n) (still (w.drewN n) (.bool true))) := Lib.hid fun n => by have := busy_any (h.drewN n) hy hl20; rw [hb] at this; exact this
      unfold still at HBZ
      clear h hy hx hn hl ho hb
      go_enter Try.func59, Try.ntmps59
      go_wp2_with fail
      refine A.out.mono ?_
      rintro e w2 ⟨rfl, n, rfl⟩
      go_wp2_with fail
      refine (HBZ.out n).mono ?_
      rintro e w3 ⟨rfl, hb3⟩
      have HB3 := Lib.hid hb3
      clear hb3
      go_wp2
      go_ret
      exact ⟨rfl, (HR.out.drewN n).below HB3.out, (drewN_below w n).trans HB3.out⟩
    · have hp : (scP L (x.op.getLast?.getD none) = .pointer none) ∨ ∃ j', scP L (x.op.getLast?.getD none) = .pointer (some ⟨L.sc j', 0, none⟩) ∧ ∀ n, (binOp .neq 104 (.pointer (some ⟨L.sc j', 0, none⟩)) (.pointer (some ⟨L.sc j, 0, none⟩))).run Try.prog (w.drewN n) = .ok (.bool true) (w.drewN n) := by
        cases hg : x.op.getLast? with
        | none => exact .inl rfl
        | some s =>
          cases s with
          | none => exact .inl rfl
          | some j' =>
            have hj' := h.rng.op _ x j' hx (List.mem_of_getLast? hg)
            refine .inr ⟨j', rfl, fun n => neq_other ((h.sc j' _ (List.getElem?_eq_getElem hj')).blk.drewN n) ((h.sc j y hy).blk.drewN n) (h.sc_ne hj' hjl fun e => ?_)⟩
            subst e; exact ho hg
      rcases hp with hp | ⟨j', hp, hne⟩
      · rw [hp] at A
        clear h hy hx hn hl ho hp
        go_enter Try.func59, Try.ntmps59
        go_wp2_with fail
        refine A.out.mono ?_
        rintro e w2 ⟨rfl, n, rfl⟩
        go_wp2
        go_ret
        exact ⟨rfl, HR.out.drewN n, drewN_below w n⟩
      · rw [hp] at A
        clear h hy hx hn hl ho hp
        go_enter Try.func59, Try.ntmps59
        go_wp2_with fail
        refine A.out.mono ?_
        rintro e w2 ⟨rfl, n, rfl⟩
        go_wp2
        go_ret
        exact ⟨rfl, HR.out.drewN n, drewN_below w n⟩
  · have hl' : x.leav = false := by simpa using hl
    rw [hl'] at c6
    have hs : ∃ q : Option Addr, scP L (x.op.getLast?.getD none) = .pointer q := by
      cases x.op.getLast?.getD none <;> exact ⟨_, rfl⟩
    obtain ⟨q, hq⟩ := hs
    rw [hq] at A
    clear h hy hx hn hl hl' hq
    go_enter Try.func59, Try.ntmps59
    go_wp2_with fail
    refine A.out.mono ?_
    rintro e w2 ⟨rfl, n, rfl⟩
    go_wp2
    go_ret
    exact ⟨rfl, HR.out.drewN n, drewN_below w n⟩
end
end Go.Proofs.Ytcegmdlmnibheaa
