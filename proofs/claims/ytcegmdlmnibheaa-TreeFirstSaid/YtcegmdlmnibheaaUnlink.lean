/- A task's innermost link is removed. -/
import Derived.Test.YtcegmdlmnibheaaInner
namespace Go.Proofs.Ytcegmdlmnibheaa
set_option linter.unusedVariables false
set_option linter.unusedSimpArgs false
open Go.RowKit

section
variable {w : World} {own : Own} {tb : Nat} {L : Lay} {t : Tr.T}
theorem Rep.drewN (h : Rep w own tb L t) (n : Nat) : Rep (w.drewN n) own tb L t := h.fr (S := none_) ((Fr.refl _ _).drewN n) (fun _ h => h.elim)
theorem Rep.drew (h : Rep w own tb L t) : Rep w.drew own tb L t := h.fr (S := none_) (Fr.refl _ _).drew (fun _ h => h.elim)
theorem put_mine {own : Own} {b : Option Nat} {r : Role} (h : ∀ k, b = some k → own k = some r) : put own b r = own := by
  funext k
  unfold put
  split
  · rename_i e; exact (h k e).symm
  · rfl
theorem unlink_rep (h : Rep w own tb L t) {i : Nat} {x : Tr.Tk} (hx : t.ts[i]? = some x) {p : Option Addr} {cap n : Nat} (e : L.ov i = .slice p (n + 1) cap) (hn : x.op.length = n + 1) :
    Rep (w.setCell ⟨L.tk i, 5, none⟩ (.slice p n cap)) own tb (L.setOv i (.slice p n cap)) (Tr.setT t i (Tr.unlink x)) := by
  have hK := h.tk i x hx
  have ho : ∀ k, (Value.slice p n cap).ownBlock = some k → own k = some (.ol i) := fun k hk => hK.lown k (by rw [e]; cases p <;> exact hk)
  have hob : (Value.slice p n cap).ownBlock = (L.ov i).ownBlock := by rw [e]; cases p <;> rfl
  have hrow : w.ownsRow 0 104 1 (.slice p n cap) (Tr.unlink x).op.length ((Tr.unlink x).op.map (scP L)) := by
    have h1 := hK.row
    rw [e, hn] at h1
    have h2 := owns_cut h1 (m := n) (by omega)
    have e1 : (Tr.unlink x).op = x.op.take n := by simp [Tr.unlink, List.dropLast_eq_take, hn]
    rw [e1, List.length_take, List.map_take, hn, show min n (n + 1) = n by omega]
    exact h2
  have hF : Fr (fun k => k = L.tk i) w (w.setCell ⟨L.tk i, 5, none⟩ (.slice p n cap)) := Fr.set (Fr.refl (fun k => k = L.tk i) w) (.inl rfl) _ _
  have hne : ∀ k, (Value.slice p n cap).ownBlock = some k → k ≠ L.tk i := fun k hk e => by
    have := ho k hk; rw [e, hK.mine] at this; simp at this
  have := h.turnO (W' := w.setCell ⟨L.tk i, 5, none⟩ (.slice p n cap)) (i := i) (x' := Tr.unlink x) (v := .slice p n cap) hx (hF.widen fun k hk _ => .inl hk) (hK.blk.set (o := 5) (by simp [tkC]) _ |> fun hb => by
    have : tkC (L.setOv i (.slice p n cap)) i (Tr.unlink x) = (tkC L i x).set 5 (.slice p n cap) := by simp only [tkC, Lay.scP_ov]; simp [Lay.setOv, Tr.unlink]
    rw [this]; exact hb) (.inr (.inl hob)) (owns_fr hrow hF fun k e' hk => hne k e' hk) rfl (fun j hj => h.rng.op i x j hx ((List.dropLast_sublist _).subset hj))
  rwa [put_mine ho] at this

set_option maxRecDepth 100000 in
set_option maxHeartbeats 1000000 in
theorem unlink_any (h : Rep w own tb L t) {i : Nat} {x : Tr.Tk} (hx : t.ts[i]? = some x) (ho : x.op ≠ []) :
    Calls Try.prog 71 #[tkP L i] w fun e w' => e = .returned (.tuple #[]) ∧ ∃ v, Rep w' own tb (L.setOv i v) (Tr.setT t i (Tr.unlink x)) ∧ Fr (fun k => k = L.tk i) w w' := by
  obtain ⟨p, cap, e, h1, h2, h3⟩ := (h.tk i x hx).form
  obtain ⟨n, hn⟩ : ∃ n, x.op.length = n + 1 := ⟨x.op.length - 1, by
    have := List.length_pos_iff.2 ho; omega⟩
  obtain ⟨g, rfl, hg, hc⟩ := h3 (by omega)
  have c := (h.tk i x hx).blk.cell 5 _ rfl
  have hlt := (h.tk i x hx).blk.lt
  have hz := (h.tk i x hx).blk.fz 5
  rw [e, hn] at c
  rw [hn] at e
  rw [hn] at h1
  have HR := Lib.hid (unlink_rep h hx e hn)
  unfold maxLen at h2
  unfold tkP
  clear hc h3 hn
  have HH := Lib.hid h
  clear e h hx ho
  have e1 : IntKind.i64.wrap (((n + 1 : Nat) : Int) - 1) = (n : Int) := by rw [IntWalk.i64_in _ (by omega)]; omega
  have e2 : ((n + 1 : Nat) : Int) - 1 = (n : Int) := by omega
  have e3 : ((n : Int)).toNat = n := by omega
  have e4 : (0 : Int) ≤ (n : Int) := by omega
  have e5 : (n : Int) ≤ (cap : Int) := by omega
  have e6 : n ≤ cap := by omega
  have e7 : IntKind.i64.wrap (n : Int) = (n : Int) := IntWalk.i64_in _ (by omega)
  go_enter Try.func71, Try.ntmps71
  go_wp2_with fail
  go_region_law (fail)
  all_goals go_wp2
  all_goals go_end0
  all_goals exact ⟨rfl, _, HR.out.drew, (Fr.set (Fr.refl (fun k => k = L.tk i) w) (.inl rfl) _ _).drew⟩
end
end Go.Proofs.Ytcegmdlmnibheaa
