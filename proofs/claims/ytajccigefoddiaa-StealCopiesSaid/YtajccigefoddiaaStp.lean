/- What Step does. -/
import Derived.Test.YtajccigefoddiaaRc
namespace Go.Proofs.Ytajccigefoddiaa
set_option linter.unusedVariables false
set_option linter.unusedSimpArgs false
open Go.RowKit Go.Shelf
section
variable {W W' w : World} {own : Own} {rb cb ab cap : Nat} {vs : List Av} {t : St.T}
set_option maxRecDepth 100000 in
theorem has_nil (x : Int) : Calls Try.prog 46 #[.pointer none, .int .i64 x] w (same w (.bool false)) := by
  unfold same
  go_enter Try.func46, Try.ntmps46
  go_wp2
  go_ret
  exact ⟨rfl, rfl⟩
set_option maxRecDepth 100000 in
theorem has_any (h : Rep w own rb cb ab vs cap t) (x : Int) : Calls Try.prog 46 #[ptr rb, .int .i64 x] w (same w (.bool (decide (0 ≤ x ∧ x < t.acts.length)))) := by
  have c3 := h.dq.blk.cell 3 _ rfl
  have hlt := h.dq.blk.lt
  have hn := h.n9
  unfold same
  generalize t.acts.length = n at *
  clear h
  by_cases h1 : 0 ≤ x
  · by_cases h2 : x < n
    · have e : decide (0 ≤ x ∧ x < (n : Int)) = true := by simp [h1, h2]
      rw [e]; clear e
      go_enter Try.func46, Try.ntmps46
      go_wp2
      go_ret
      exact ⟨rfl, rfl⟩
    · have e : decide (0 ≤ x ∧ x < (n : Int)) = false := by simp [h2]
      rw [e]; clear e
      have h3 : decide (x < (n : Int)) = false := by simp; omega
      go_enter Try.func46, Try.ntmps46
      go_wp2
      go_ret
      exact ⟨by simp; try omega, rfl⟩
  · have e : decide (0 ≤ x ∧ x < (n : Int)) = false := by simp [h1]
    rw [e]; clear e
    go_enter Try.func46, Try.ntmps46
    go_wp2
    go_ret
    exact ⟨by simp; try omega, rfl⟩
/-- What a race keeps, that its steps ask for. -/
structure RcOk (t : St.T) : Prop where
  ph : ∀ (i : Nat) a p l, t.acts[i]? = some a → a.at = some (p, l) → PhOk t.d p
  gl : ∀ (i : Nat) a, t.acts[i]? = some a → a.got.length ≤ 900
def stepPostR (w : World) (own : Own) (rb cb ab cap : Nat) (r : St.T × Bool) (e : Ending) (w' : World) : Prop := e = .returned (.bool r.2) ∧ Gone w own rb cb ab cap r.1 w'
theorem quiet_left {P : Program} {f : FuncId} {args : Array Value} {w : World} {n : Nat} {v : Value}
    (h : Calls P f args (w.drewN n) fun e w' => e = .returned v ∧ w.drewN n = w') : Calls P f args (w.drewN n) fun e w'' => e = .returned v ∧ ∃ m, w'' = w.drewN m :=
  h.mono fun _ _ ⟨he, hm⟩ => ⟨he, n, hm.symm⟩
theorem step_len (t : St.T) (x : Int) : (t.step x).1.acts.length = t.acts.length := by
  unfold St.T.step
  split
  · rfl
  · split
    · rfl
    · split
      · rfl
      · simp
theorem actStep (h : Rep w own rb cb ab vs cap t) (hk : RcOk t) {i : Nat} {a : St.Ac} (ha : t.acts[i]? = some a) :
    Calls Try.prog 47 #[.pointer (some ⟨ab, i * 3, none⟩), ptr rb] w (stepPostR w own rb cb ab cap (t.step (i : Int))) := by
  have hi : i < vs.length := by have := (List.getElem?_eq_some_iff.1 ha).1; have := h.len; omega
  obtain ⟨v, hv⟩ : ∃ v, vs[i]? = some v := ⟨_, List.getElem?_eq_getElem hi⟩
  have hA := h.acIn hv ha
  have e0 : ¬ ((i : Int) < 0) := by omega
  have e1 : (i : Int).toNat = i := by omega
  cases hat : a.at with
  | none =>
    have e2 : t.step (i : Int) = (t, false) := by unfold St.T.step; rw [if_neg e0, e1, ha]; simp [St.Ac.step, hat]
    rw [e2]
    have ID := hA.isDone
    rw [hat] at ID
    have ID := Lib.hid ID
    have HG : Hid (Gone w own rb cb ab cap t w) := Lib.hid h.gone
    have hlt := h.blk.lt
    unfold same at ID
    unfold stepPostR
    clear h hA hat e2
    go_enter Try.func47, Try.ntmps47
    go_wp2_with fail
    refine ID.out.mono ?_
    rintro e w1 ⟨rfl, rfl⟩
    go_wp2
    go_ret
    exact ⟨rfl, HG.out⟩
  | some pl =>
    obtain ⟨p, l⟩ := pl
    have hs := step_at (d := t.d) hat
    have e2 : t.step (i : Int) = (⟨(p.run t.d).1, t.acts.set i ⟨l, (p.run t.d).2.1, if (p.run t.d).2.1.isNone then a.got ++ [(p.run t.d).2.2] else a.got⟩⟩, true) := by unfold St.T.step; rw [if_neg e0, e1, ha]; simp only [hs]
    rw [e2]
    have := step_any hA h.dq hat (hk.ph i a p l ha hat)
    refine this.mono fun e w' hp => ?_
    rw [hs] at hp
    exact step_gone h hv ha (hk.gl i a ha) hs hp
set_option maxRecDepth 100000 in
set_option maxHeartbeats 1000000 in
theorem Step_any (h : Rep w own rb cb ab vs cap t) (hk : RcOk t) (x : Int) : Calls Try.prog 18 #[ptr rb, .int .i64 x] w (stepPostR w own rb cb ab cap (t.step x)) := by
  have HS : Hid (∀ W, Below w.heap.size w W → Calls Try.prog 46 #[ptr rb, .int .i64 x] W (same W (.bool (decide (0 ≤ x ∧ x < t.acts.length))))) := Lib.hid fun W hW => has_any (h.below hW) x
  unfold same at HS
  have B1 : Hid (Below w.heap.size w w.drew) := Lib.hid (below_drewN (Below.refl _ _) 1)
  by_cases hx : 0 ≤ x ∧ x < t.acts.length
  · obtain ⟨i, rfl⟩ : ∃ i : Nat, x = (i : Int) := ⟨x.toNat, by omega⟩
    have hi : i < t.acts.length := by omega
    obtain ⟨a, ha⟩ : ∃ a, t.acts[i]? = some a := ⟨_, List.getElem?_eq_getElem hi⟩
    have A : Hid (Calls Try.prog 47 #[.pointer (some ⟨ab, i * 3, none⟩), ptr rb] w.drew (stepPostR w.drew own rb cb ab cap (t.step (i : Int)))) := Lib.hid (actStep (h.below B1.out) hk ha)
    have c3 := h.dq.blk.cell 3 _ rfl
    have hlt := h.dq.blk.lt
    have hn := h.n9
    rw [show decide (0 ≤ (i : Int) ∧ (i : Int) < t.acts.length) = true by simp; omega] at HS
    have hlen : (t.step (i : Int)).1.acts.length = t.acts.length := step_len t _
    have KC : Hid (∀ W, Gone w own rb cb ab cap (t.step (i : Int)).1 W → W.cell? ⟨rb, 3, none⟩ = some (.slice (some ⟨ab, 0, none⟩) t.acts.length cap)) := Lib.hid fun W hG => by
      obtain ⟨o', v', hR, _, _⟩ := hG
      rw [← hlen]
      exact hR.dq.blk.cell 3 _ rfl
    unfold stepPostR at A ⊢
    clear hlen
    generalize t.acts.length = n at *
    generalize t.step (i : Int) = r at *
    have j1 : (i : Int) < (n : Int) := by omega
    have j2 : (0 : Int) ≤ (i : Int) := by omega
    clear h hx ha
    go_enter Try.func18, Try.ntmps18
    go_wp2_with fail
    go_region_held3 (fun W' => W'.cell? ⟨rb, 3, none⟩ = some (.slice (some ⟨ab, 0, none⟩) n cap))
      (first | exact c3 | exact KC.out _ HG.out | go_keep)
     (first
      | (go_at_call 46; refine (HS.out _ B1.out).mono ?_; rintro e w2 ⟨rfl, rfl⟩)
      | (go_at_call 47; refine A.out.mono ?_; rintro e w2 ⟨rfl, hG⟩; have HG := Lib.hid (Gone.from_ B1.out hG); clear hG))
    all_goals go_wp2
    all_goals go_ret
    all_goals exact ⟨rfl, HG.out⟩
  · have e2 : t.step x = (t, false) := by
      unfold St.T.step
      by_cases h0 : x < 0
      · rw [if_pos h0]
      · rw [if_neg h0, List.getElem?_eq_none (by omega)]
    rw [e2]
    have HG : Hid (∀ n, Gone w own rb cb ab cap t (w.drewN n)) := Lib.hid fun n => h.goneB (below_drewN (Below.refl _ _) n)
    rw [show decide (0 ≤ x ∧ x < t.acts.length) = false by simp; omega] at HS
    unfold stepPostR
    have h3 := h.dq.blk.cell 3 _ rfl
    have hlt := h.dq.blk.lt
    clear h hx e2
    go_enter Try.func18, Try.ntmps18
    go_wp2_with fail
    go_quiet ((go_at_call 46; exact quiet_left (HS.out _ (below_drewN (Below.refl _ _) _))))
    go_wp2
    go_ret
    exact ⟨rfl, HG.out _⟩
end
end Go.Proofs.Ytajccigefoddiaa
