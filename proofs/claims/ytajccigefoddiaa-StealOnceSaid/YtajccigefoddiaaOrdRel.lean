/- Thieves together steal numbers in the order in which they were pushed. -/
import Derived.Test.YtajccigefoddiaaPgsRel
namespace Go.Proofs.Ytajccigefoddiaa
set_option linter.unusedVariables false
set_option linter.unusedSimpArgs false
open Go.RowKit
open St
def opPush : St.Op → Option Int
  | .push x => some x
  | _ => none
/-- What the owner has still to push. -/
def pend (a : Ac) : List Int := (match a.next with | some p => (Ev.isPush p).toList | none => []) ++ a.todo.filterMap opPush
theorem push_first (op : St.Op) : Ev.isPush op.first = opPush op := by cases op <;> rfl
theorem at_pend {a : Ac} {p : St.Ph} {l : List St.Op} (h : a.at = some (p, l)) : pend a = (Ev.isPush p).toList ++ l.filterMap opPush := by
  unfold pend
  rcases at_mem h with ⟨e, rfl⟩ | ⟨e, op, e2, rfl⟩
  · rw [e]
  · rw [e, e2, push_first]
    cases hop : opPush op with
    | none => simp [List.filterMap_cons, hop]
    | some x => simp [List.filterMap_cons, hop]
/-- What was stolen. -/
def stl (log : List (Nat × Int)) : List Int := log.filterMap fun e => if e.1 ≠ 0 ∧ 0 < e.2 then some e.2 else none
structure OInv (t : T) (S : List Int) (last : Int) : Prop where
  rinv : RInv t S
  inc : ∀ a, t.acts[0]? = some a → (last :: (S ++ pend a)).Pairwise (· < ·)
/-- The log says what was stolen, in order. -/
def LInv (log : List (Nat × Int)) (last : Int) : Prop := (0 :: stl log).Pairwise (· < ·) ∧ (0 :: stl log).getLast? = some last
theorem OInv.own {t : T} {S : List Int} {last : Int} (h : OInv t S last) {a : Ac} (ha : t.acts[0]? = some a) {p : St.Ph} {l : List St.Op} (hat : a.at = some (p, l)) {S' : List Int} {e : Ev}
    (hit : Ev.items e S S') (hev : EvAt 0 p t.d (p.run t.d) e) : (last :: (S' ++ pend (a.after l (p.run t.d)))).Pairwise (· < ·) := by
  have h0 := h.inc a ha
  rw [at_pend hat] at h0
  have hl : ∀ q, (p.run t.d).2.1 = q → pend (a.after l (p.run t.d)) = (match q with | some p => (Ev.isPush p).toList | none => []) ++ l.filterMap opPush := fun q e => by subst e; rfl
  cases hq : (p.run t.d).2.1 with
  | some q =>
    obtain ⟨rfl, _⟩ := hev.go (by rw [hq]; rfl)
    have e : S' = S := hit
    subst e
    rw [hl _ hq]
    simp only
    rw [hev.push rfl q hq]
    exact h0
  | none =>
    rw [hl _ hq]
    simp only [List.nil_append]
    rcases hev.own (by rw [hq]; rfl) rfl with ⟨x, hx, _, _, rfl | rfl⟩ | ⟨hx, ⟨rfl, _⟩ | ⟨x, rfl, _, _⟩⟩
    · have e : S' = S := hit
      subst e
      refine h0.sublist ?_
      exact (List.Sublist.append (List.Sublist.refl _) (List.sublist_append_right _ _)).cons_cons _
    · have e : S' = S ++ [x] := hit
      subst e
      rw [hx] at h0
      simpa using h0
    · have e : S' = S := hit
      subst e
      refine h0.sublist ?_
      exact (List.Sublist.append (List.Sublist.refl _) (List.sublist_append_right _ _)).cons_cons _
    · have e : S = S' ++ [x] := hit
      subst e
      refine h0.sublist ?_
      exact (List.Sublist.append (List.sublist_append_left _ _) (List.sublist_append_right _ _)).cons_cons _
theorem stl_snoc (log : List (Nat × Int)) (e : Nat × Int) : stl (log ++ [e]) = stl log ++ (if e.1 ≠ 0 ∧ 0 < e.2 then [e.2] else []) := by
  unfold stl
  rw [List.filterMap_append]
  congr 1
  by_cases h : e.1 ≠ 0 ∧ 0 < e.2 <;> simp [List.filterMap_cons, h]
theorem LInv.skip {log : List (Nat × Int)} {last : Int} (h : LInv log last) {e : Nat × Int} (hn : ¬ (e.1 ≠ 0 ∧ 0 < e.2)) : LInv (log ++ [e]) last := by
  unfold LInv
  rw [stl_snoc, if_neg hn, List.append_nil]
  exact h
theorem LInv.stole {log : List (Nat × Int)} {last : Int} (h : LInv log last) {e : Nat × Int} (hn : e.1 ≠ 0 ∧ 0 < e.2) (hl : last < e.2) : LInv (log ++ [e]) e.2 := by
  obtain ⟨h1, h2⟩ := h
  unfold LInv
  rw [stl_snoc, if_pos hn]
  have hlast : ∀ x ∈ (0 :: stl log), x ≤ last := fun x hx => by
    obtain ⟨ys, hy⟩ := List.getLast?_eq_some_iff.1 h2
    rw [hy] at h1 hx
    rcases List.mem_append.1 hx with h3 | h3
    · exact Int.le_of_lt ((List.pairwise_append.1 h1).2.2 x h3 last (by simp))
    · simp at h3; omega
  refine ⟨?_, by rw [← List.cons_append, List.getLast?_append]; simp⟩
  rw [← List.cons_append]
  refine List.pairwise_append.2 ⟨h1, by simp, fun x hx y hy => ?_⟩
  simp at hy
  have := hlast x hx
  omega
theorem OInv.step {t : T} {S : List Int} {last : Int} {log : List (Nat × Int)} (h : OInv t S last) (hl : LInv log last) (h9 : t.acts.length ≤ 9) (x : Int) : ∃ S' last', OInv (lgStep (t, log) x).1 S' last' ∧ LInv (lgStep (t, log) x).2 last' := by
  rcases lgStep_cases t log x h9 with e | ⟨i, a, p, l, rfl, ha, hat, e⟩
  · rw [e]; exact ⟨S, last, h, hl⟩
  · rw [e]
    obtain ⟨S', ev, hS', hit, hev, _⟩ := h.rinv.step ha hat
    have hil : i < t.acts.length := (List.getElem?_eq_some_iff.1 ha).1
    by_cases hi : i = 0
    · subst hi
      refine ⟨S', last, ⟨hS', fun b hb => ?_⟩, ?_⟩
      · simp only at hb
        rw [List.getElem?_set_self hil] at hb
        cases hb
        exact h.own ha hat hit hev
      · simp only
        split
        · exact hl.skip (fun h => h.1 rfl)
        · exact hl
    · have hown : ∀ b, (t.acts.set i (a.after l (p.run t.d)))[0]? = some b → t.acts[0]? = some b := fun b hb => by rwa [List.getElem?_set_ne hi] at hb
      by_cases hq : (p.run t.d).2.1.isNone = true
      · rw [if_pos hq]
        have hr := hev.res hq
        rcases hev.thief hq (by omega) with ⟨rfl, _⟩ | ⟨rfl, _⟩ | ⟨y, rfl, hy, _⟩
        · have e : S' = S := hit
          subst e
          exact ⟨S', last, ⟨hS', fun b hb => h.inc b (hown b hb)⟩, hl.skip (fun h => by have := h.2; simp only [hr, Ev.res] at this; omega)⟩
        · have e : S' = S := hit
          subst e
          exact ⟨S', last, ⟨hS', fun b hb => h.inc b (hown b hb)⟩, hl.skip (fun h => by have := h.2; simp only [hr, Ev.res] at this; omega)⟩
        · have e : S = y :: S' := hit
          subst e
          obtain ⟨b0, hb0⟩ : ∃ b, t.acts[0]? = some b := ⟨_, List.getElem?_eq_getElem h.rinv.n0⟩
          have hlt : last < y := by
            have := h.inc b0 hb0
            simp only [List.cons_append, List.pairwise_cons] at this
            exact this.1 y (by simp)
          have hr' : (p.run t.d).2.2 = y := hr
          refine ⟨S', y, ⟨hS', fun b hb => ?_⟩, ?_⟩
          · have := h.inc b (hown b hb)
            simp only [List.cons_append, List.pairwise_cons] at this
            exact List.pairwise_cons.2 this.2
          · rw [hr']
            exact hl.stole (e := (i, y)) ⟨hi, hy⟩ hlt
      · rw [if_neg hq]
        obtain ⟨rfl, _⟩ := hev.go (eq_false_of_ne_true hq)
        have e : S' = S := hit
        subst e
        exact ⟨S', last, ⟨hS', fun b hb => h.inc b (hown b hb)⟩, hl⟩
theorem OInv.plays {s : T × List (Nat × Int)} {S : List Int} {last : Int} (h : OInv s.1 S last) (hl : LInv s.2 last) (h9 : s.1.acts.length ≤ 9) (l : List Int) : ∃ S' last', OInv (lgPlays s l).1 S' last' ∧ LInv (lgPlays s l).2 last' := by
  induction l generalizing s S last with
  | nil => exact ⟨S, last, h, hl⟩
  | cons x l ih =>
    have hle : (lgStep s x).1.acts.length = s.1.acts.length := acts_len s [x]
    obtain ⟨S', last', h1, h2⟩ := h.step hl h9 x
    exact ih (s := lgStep s x) h1 h2 (by rw [hle]; exact h9)
theorem order_mk {room : Int} {lo lt : List Int} (h : St.okPlan room lo lt = true) (hinc : (0 :: lo.filter (fun x => decide (0 < x))).Pairwise (· < ·)) (l : List Int) : (0 :: stl (lgPlays (St.mkT room lo lt, []) l).2).Pairwise (· < ·) := by
  obtain ⟨h1, h2, h3, h4, h5, h6⟩ := okPlan_parts h
  have hp : (lo.map opOf).filterMap opPush = lo.filter (fun x => decide (0 < x)) := by
    rw [List.filterMap_map]
    clear h hinc h3
    induction lo with
    | nil => rfl
    | cons x lo ih =>
      have hx := h4 x (by simp)
      have ih := ih (fun y hy => h4 y (by simp [hy]))
      by_cases h0 : x = 0
      · subst h0; simpa [List.filterMap_cons, opOf, opPush] using ih
      · have hp : 0 < x := by omega
        simp [List.filterMap_cons, opOf, opPush, h0, hp, List.filter_cons]
        simpa using ih
  obtain ⟨S', last', _, h8⟩ := OInv.plays (s := (St.mkT room lo lt, [])) (S := []) (last := 0) ⟨inv_mk h, fun a ha => by
    obtain rfl : (⟨lo.map opOf, none, []⟩ : Ac) = a := by simpa [St.mkT] using ha
    unfold pend
    simp only [List.nil_append]
    rw [hp]
    exact hinc⟩ ⟨by simp [stl], by simp [stl]⟩ (by simp [St.mkT]; omega) l
  exact h8.1
end Go.Proofs.Ytajccigefoddiaa
