/- The innermost link of a task; its shields. -/
import Derived.Test.YtcegmdlmnibheaaFault
namespace Go.Proofs.Ytcegmdlmnibheaa
set_option linter.unusedVariables false
set_option linter.unusedSimpArgs false
open Go.RowKit

section
variable {w : World} {own : Own} {tb : Nat} {L : Lay} {t : Tr.T}
theorem TkAt.form {i : Nat} {x : Tr.Tk} (h : TkAt w own L i x) : ∃ p cap, L.ov i = .slice p x.op.length cap ∧ x.op.length ≤ cap ∧ cap ≤ maxLen ∧ (0 < x.op.length → ∃ g, p = some ⟨g, 0, none⟩ ∧ g < w.heap.size ∧ ∀ (k : Nat) s, x.op[k]? = some s → w.cell? ⟨g, k, none⟩ = some (scP L s)) := by
  obtain ⟨p, cap, e, h1, h2, h3⟩ := owns_form h.row
  refine ⟨p, cap, e, h1, h2, fun hp => ?_⟩
  obtain ⟨g, e2, h4, h5⟩ := h3 hp
  exact ⟨g, e2, h4, fun k s hs => h5 k _ (by rw [List.getElem?_map, hs]; rfl)⟩
theorem ScAt.form {j : Nat} {y : Tr.Sc} (h : ScAt w own L j y) : ∃ p cap, L.kv j = .slice p y.tks.length cap ∧ y.tks.length ≤ cap ∧ cap ≤ maxLen ∧ (0 < y.tks.length → ∃ g, p = some ⟨g, 0, none⟩ ∧ g < w.heap.size ∧ ∀ (k : Nat) i, y.tks[k]? = some i → w.cell? ⟨g, k, none⟩ = some (tkP L i)) := by
  obtain ⟨p, cap, e, h1, h2, h3⟩ := owns_form h.row
  refine ⟨p, cap, e, h1, h2, fun hp => ?_⟩
  obtain ⟨g, e2, h4, h5⟩ := h3 hp
  exact ⟨g, e2, h4, fun k s hs => h5 k _ (by rw [List.getElem?_map, hs]; rfl)⟩

theorem last_at {α : Type} {l : List α} {n : Nat} {s : α} (hn : l.length = n + 1) (h : l.getLast? = some s) : l[n]? = some s := by
  rw [List.getLast?_eq_getElem?] at h
  rw [hn] at h
  simpa using h

set_option maxRecDepth 100000 in
theorem inner_none (h : Rep w own tb L t) {i : Nat} {x : Tr.Tk} (hx : t.ts[i]? = some x) (ho : x.op = []) : Calls Try.prog 60 #[tkP L i] w (same w (.tuple #[.pointer none, .bool false])) := by
  obtain ⟨p, cap, e, -⟩ := (h.tk i x hx).form
  have c := (h.tk i x hx).blk.cell 5 _ rfl
  rw [e, ho] at c
  unfold same tkP
  clear h hx ho e
  go_enter Try.func60, Try.ntmps60
  go_wp2
  go_ret2
  exact ⟨rfl, rfl⟩
set_option maxRecDepth 100000 in
set_option maxHeartbeats 1000000 in
theorem inner_some (h : Rep w own tb L t) {i : Nat} {x : Tr.Tk} (hx : t.ts[i]? = some x) {s : Option Nat} (ho : x.op.getLast? = some s) :
    Calls Try.prog 60 #[tkP L i] w fun e w' => e = .returned (.tuple #[scP L s, .bool true]) ∧ ∃ n, w' = w.drewN n := by
  obtain ⟨p, cap, e, h1, h2, h3⟩ := (h.tk i x hx).form
  obtain ⟨n, hn⟩ : ∃ n, x.op.length = n + 1 := ⟨x.op.length - 1, by
    have : x.op ≠ [] := fun e => by rw [e] at ho; cases ho
    have := List.length_pos_iff.2 this; omega⟩
  obtain ⟨g, rfl, hg, hc⟩ := h3 (by omega)
  have c := (h.tk i x hx).blk.cell 5 _ rfl
  have hlt := (h.tk i x hx).blk.lt
  have cl := hc n s (last_at hn ho)
  rw [e, hn] at c
  rw [hn] at h1
  unfold maxLen at h2
  unfold tkP
  generalize scP L s = sv at *
  clear h hx ho e hc h3 hn
  have e1 : IntKind.i64.wrap (((n + 1 : Nat) : Int) - 1) = (n : Int) := by rw [IntWalk.i64_in _ (by omega)]; omega
  have e2 : ((n + 1 : Nat) : Int) - 1 = (n : Int) := by omega
  have h0 : (((n + 1 : Nat) : Int) == 0) = false := by simp; omega
  have e3 : ((n : Int)).toNat = n := by omega
  have e4 : (0 : Int) ≤ (n : Int) := by omega
  have e5 : (n : Int) < ((n + 1 : Nat) : Int) := by omega
  have e6 : n < n + 1 := by omega
  go_enter Try.func60, Try.ntmps60
  go_wp2_with fail
  go_quiet (fail)
  go_wp2
  go_ret2
  exact ⟨rfl, _, rfl⟩
end
end Go.Proofs.Ytcegmdlmnibheaa
