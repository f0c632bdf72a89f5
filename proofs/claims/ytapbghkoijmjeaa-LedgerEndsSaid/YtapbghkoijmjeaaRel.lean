/- What release does: the time and an entry turn. -/
import Derived.Test.YtapbghkoijmjeaaAcq2
namespace Go.Proofs.Ytapbghkoijmjeaa
set_option linter.unusedVariables false
set_option linter.unusedSimpArgs false
open Go.RowKit
theorem owns_set {w : World} {base : Nat} {e : TypeId} {size n g cap : Nat} {xs : List Value} (h : w.ownsRow base e size (.slice (some ⟨g, 0, none⟩) n cap) n xs) {o : Nat} (ho : o < xs.length) (v : Value) :
    (w.setCell ⟨g, o, none⟩ v).ownsRow base e size (.slice (some ⟨g, 0, none⟩) n cap) n (xs.set o v) := by
  refine ⟨by simpa using h.1, ?_⟩
  rcases h.2 with ⟨h1, _⟩ | ⟨g', cap', cur, h1, h2, h3, h4, h5, h6, h7⟩
  · cases h1
  · cases h1
    refine .inr ⟨g, cap, cur.setIfInBounds o v, rfl, h2, ?_, h4, h5, by simpa using h6, ?_⟩
    · simp [World.setCell, Array.getElem?_modify, h3]
    · rw [← h7, Array.toList_setIfInBounds, List.take_set]
theorem flat_set {α : Type} {f : α → List Value} {sz : Nat} (hf : ∀ x, (f x).length = sz) {j : Nat} {v : Value} (hj : j < sz) : ∀ (l : List α) (i : Nat) (x y : α), l[i]? = some x → f y = (f x).set j v → (l.set i y).flatMap f = (l.flatMap f).set (i * sz + j) v
  | [], _, _, _, h, _ => by simp at h
  | a :: l, 0, x, y, h, hy => by
    have e : a = x := by simpa using h
    subst e
    rw [List.set_cons_zero, List.flatMap_cons, List.flatMap_cons, Nat.zero_mul, Nat.zero_add, List.set_append_left _ _ (by rw [hf]; exact hj), hy]
  | a :: l, i + 1, x, y, h, hy => by
    have e : (i + 1) * sz + j = sz + (i * sz + j) := by rw [Nat.add_mul]; omega
    rw [List.set_cons_succ, List.flatMap_cons, List.flatMap_cons, e, List.set_append_right _ _ (by rw [hf]; omega), hf, Nat.add_sub_cancel_left, flat_set hf hj l i x y (by simpa using h) hy]
section
variable {w : World} {own : Own} {lb : Nat} {L : Lay} {t : Ld.T}
/-- A cell of an entry has turned. -/
theorem set_rep (h : Rep w own lb L t) {a : Nat} {e e' : Ld.En} (he : t.es[a]? = some e) {g n cap : Nat} (hv : L.ev = .slice (some ⟨g, 0, none⟩) n cap) {j : Nat} (hj : j < 6) {v : Value} (hc : enC e' = (enC e).set j v) :
    Rep (w.setCell ⟨g, a * 6 + j, none⟩ v) own lb L { t with es := t.es.set a e' } ∧ Fr (fun k => own k ≠ none) w (w.setCell ⟨g, a * 6 + j, none⟩ v) := by
  have ha : a < t.es.length := (List.getElem?_eq_some_iff.1 he).1
  have og : own g = some .ents := h.evo g (by rw [hv]; rfl)
  have hg : g ≠ lb := fun e' => by rw [e', h.mine] at og; simp at og
  have hF : Fr (fun b => b = g) w (w.setCell ⟨g, a * 6 + j, none⟩ v) := Fr.set (Fr.refl (fun b => b = g) w) (.inl rfl) _ _
  have key : ∀ b r, b = g → own b = some r → r = .ents := fun b r e e' => by subst e; rw [og] at e'; exact (Option.some.inj e').symm
  have hrow := h.erow
  rw [hv] at hrow
  have hn : n = t.es.length := by
    rcases hrow.2 with ⟨h1, _⟩ | ⟨_, _, _, h1, _⟩
    · cases h1
    · cases h1; rfl
  subst hn
  refine ⟨⟨fun k r e => Nat.lt_of_lt_of_le (h.lt k r e) hF.size, h.mine, h.blk.fr hF (Ne.symm hg), h.evo, ?_, h.hvo, fun i hi => owns_fr (h.hrow i hi) hF fun k e e' => by have := key _ _ e' (h.hvo i k hi e); simp at this⟩, hF.widen fun b hb _ => by rw [hb, og]; simp⟩
  have h2 := owns_set hrow (o := a * 6 + j) (by rw [flat_len (f := enC) (sz := 6) (fun _ => rfl)]; omega) v
  rw [← flat_set (f := enC) (sz := 6) (fun _ => rfl) hj t.es a e e' he hc] at h2
  show World.ownsRow _ 0 76 6 L.ev (t.es.set a e').length ((t.es.set a e').flatMap enC)
  rw [hv, List.length_set]
  exact h2
def Ld.relT (t : Ld.T) (a : Nat) (e : Ld.En) : Ld.T := ⟨t.time + 1, t.es.set a { e with to_ := ((t.time + 1 : Nat) : Int) }, t.hs⟩
set_option maxRecDepth 100000 in
set_option maxHeartbeats 2000000 in
theorem release_any (h : Rep w own lb L t) {a : Nat} {e : Ld.En} (he : t.es[a]? = some e) (ht : t.time ≤ 1000000) (hl : t.es.length ≤ 1000000) :
    Calls Try.prog 40 #[ptr lb, .int .i64 (a : Int)] w fun e' w' => e' = .returned (.tuple #[]) ∧ Rep w' own lb L (Ld.relT t a e) ∧ Fr (fun k => own k ≠ none) w w' := by
  obtain ⟨p, cap, ee, h1, h2, h3⟩ := h.eform
  have ha : a < t.es.length := (List.getElem?_eq_some_iff.1 he).1
  obtain ⟨g, rfl, og, hg, hz, hc⟩ := h3 (by omega)
  have hgl : g ≠ lb := fun e' => by rw [e', h.mine] at og; simp at og
  have c0 := h.blk.cell 0 _ rfl
  have c1 := h.blk.cell 1 _ rfl
  rw [ee] at c1
  have z0 := h.blk.fz 0
  have hlt := h.blk.lt
  have q3 := hc a e he 3 _ rfl
  have zq := hz (a * 6 + 3)
  obtain ⟨R1, F1⟩ := time_rep h (t.time + 1)
  obtain ⟨R2, F2⟩ := set_rep R1 (e' := { e with to_ := ((t.time + 1 : Nat) : Int) }) he ee (j := 3) (by omega) (v := .int .i64 ((t.time + 1 : Nat) : Int)) rfl
  have HR2 : Hid (Rep ((w.setCell ⟨lb, 0, none⟩ (.int .i64 ((t.time + 1 : Nat) : Int))).setCell ⟨g, a * 6 + 3, none⟩ (.int .i64 ((t.time + 1 : Nat) : Int))).drew own lb L (Ld.relT t a e) ∧ Fr (fun k => own k ≠ none) w ((w.setCell ⟨lb, 0, none⟩ (.int .i64 ((t.time + 1 : Nat) : Int))).setCell ⟨g, a * 6 + 3, none⟩ (.int .i64 ((t.time + 1 : Nat) : Int))).drew) := Lib.hid ⟨R2.drew, (F1.trans F2).drew⟩
  obtain ⟨m, hm⟩ : ∃ m, t.es.length = m := ⟨_, rfl⟩
  rw [hm] at c1 ha h1 hl
  have e1 : IntKind.i64.wrap ((t.time : Int) + 1) = (t.time : Int) + 1 := IntWalk.i64_in _ (by omega)
  have e2 : ((a : Int)).toNat = a := by omega
  have e3 : (0 : Int) ≤ (a : Int) := by omega
  have e4 : (a : Int) < (m : Int) := by omega
  clear h ee h3 og hz hc R1 F1 R2 F2 hm he
  go_enter Try.func40, Try.ntmps40
  go_wp2_with fail
  go_region_law (fail)
  all_goals go_wp2
  all_goals go_end0
  all_goals exact ⟨rfl, HR2.out⟩
end
end Go.Proofs.Ytapbghkoijmjeaa
