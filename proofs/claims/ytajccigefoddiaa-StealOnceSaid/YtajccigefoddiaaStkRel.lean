/- The owner alone: what is pushed last is taken first. -/
import Derived.Test.YtajccigefoddiaaOrdRel
namespace Go.Proofs.Ytajccigefoddiaa
set_option linter.unusedVariables false
set_option linter.unusedSimpArgs false
open Go.RowKit
open St
/-- The stack, and what the owner gets. -/
def stkStep (room : Nat) (s : List Int × List Int) (x : Int) : List Int × List Int :=
  if 0 < x then (if s.1.length = room then (s.1, s.2 ++ [-1]) else (s.1 ++ [x], s.2 ++ [x]))
  else match s.1.getLast? with
    | none => (s.1, s.2 ++ [0])
    | some y => (s.1.dropLast, s.2 ++ [y])
def unOp : St.Op → Int
  | .push x => x
  | _ => 0
def phNum (p : St.Ph) : Int := (Ev.isPush p).getD 0
/-- What the owner has still to do, as it was asked. -/
def remOps (a : Ac) : List Int := (match a.next with | some p => [phNum p] | none => []) ++ a.todo.map unOp
theorem num_first (op : St.Op) : phNum op.first = unOp op := by cases op <;> rfl
theorem at_rem {a : Ac} {p : St.Ph} {l : List St.Op} (h : a.at = some (p, l)) : remOps a = phNum p :: l.map unOp := by
  unfold remOps
  rcases at_mem h with ⟨e, rfl⟩ | ⟨e, op, e2, rfl⟩
  · rw [e]; rfl
  · rw [e, e2, num_first]; rfl
theorem own_full {d : Dq} {S : List Int} {p : St.Ph} {x : Int} (h : Dk d S) (hp : OwnPh d S (some p)) (hx : Ev.isPush p = some x) (h0 : 0 < x) (hq : (p.run d).2.1 = none) : (p.run d).2.2 = -1 ∧ S.length = d.cells.length ∨ (p.run d).2.2 = x ∧ S.length < d.cells.length := by
  cases p with
  | look y =>
    simp only [Ph.run] at hq ⊢
    split at hq
    · rename_i hc
      rw [if_pos hc]
      have := hp.1
      left
      exact ⟨rfl, by omega⟩
    · cases hq
  | raise y =>
    injection hx with hx
    subst hx
    exact .inr ⟨rfl, hp.2.1⟩
  | write y => cases hq
  | _ => cases hx
theorem own_empty {d : Dq} {S : List Int} {p : St.Ph} (h : Dk d S) (hp : OwnPh d S (some p)) (hx : Ev.isPush p = none) (hq : (p.run d).2.1 = none) (hr : (p.run d).2.2 = 0) : S = [] := by
  cases p with
  | compare =>
    have hb : d.bottom + 1 = (d.top + S.length : Nat) := hp
    simp only [Ph.run] at hq hr
    by_cases hc : d.bottom < d.top
    · exact List.eq_nil_of_length_eq_zero (by omega)
    · rw [if_neg hc] at hq hr
      by_cases hc2 : (d.top : Int) < d.bottom
      · rw [if_pos hc2] at hr
        exfalso
        have hlen : S.length - 1 < S.length := by omega
        have h1 := h.cell (S.length - 1) _ (List.getElem?_eq_getElem hlen)
        rw [show d.top + (S.length - 1) = d.bottom.toNat by omega] at h1
        have h2 := h.pos _ (List.getElem_mem hlen)
        simp only at hr
        omega
      · rw [if_neg hc2] at hq; cases hq
  | last u y =>
    obtain ⟨hb, ⟨h1, h2⟩ | ⟨h1, h2⟩⟩ := hp
    · simp only [Ph.run, h1, if_true] at hr
      have := h.pos y (by rw [h2]; simp)
      omega
    · exact h2
  | lower => cases hq
  | readLast => cases hq
  | look y => cases hx
  | write y => cases hx
  | raise y => cases hx
  | aim => exact hp.elim
  | bound u => exact hp.elim
  | reach u => exact hp.elim
  | claim u y => exact hp.elim
structure SkInv (room : Nat) (ops : List Int) (t : T) (S : List Int) : Prop where
  rinv : RInv t S
  one : t.acts.length = 1
  cap : t.d.cells.length = room
  run : ∀ a, t.acts[0]? = some a → ∃ pre, pre ++ remOps a = ops ∧ pre.foldl (stkStep room) ([], []) = (S, a.got)
theorem SkInv.step {room : Nat} {ops : List Int} {t : T} {S : List Int} (h : SkInv room ops t S) (x : Int) : ∃ S', SkInv room ops (t.step x).1 S' := by
  rcases step_cases t x with ⟨e, _⟩ | ⟨i, a, p, l, rfl, ha, hat, e⟩
  · rw [e]; exact ⟨S, h⟩
  · rw [e]
    have hil : i < t.acts.length := (List.getElem?_eq_some_iff.1 ha).1
    obtain rfl : i = 0 := by have := h.one; omega
    obtain ⟨S', ev, hS', hit, hev, hcl⟩ := h.rinv.step ha hat
    have hop := h.rinv.ownAt ha hat
    refine ⟨S', hS', by simpa using h.one, hcl.trans h.cap, fun b hb => ?_⟩
    simp only at hb
    rw [List.getElem?_set_self hil] at hb
    cases hb
    obtain ⟨pre, h1, h2⟩ := h.run a ha
    rw [at_rem hat] at h1
    cases hq : (p.run t.d).2.1 with
    | some q =>
      obtain ⟨rfl, _⟩ := hev.go (by rw [hq]; rfl)
      have e : S' = S := hit
      subst e
      refine ⟨pre, ?_, by rw [h2]; unfold Ac.after; simp [hq]⟩
      have e : remOps (a.after l (p.run t.d)) = phNum q :: l.map unOp := by unfold remOps Ac.after; simp [hq]
      rw [e, ← h1]
      unfold phNum
      rw [hev.push rfl q hq]
    | none =>
      have e : remOps (a.after l (p.run t.d)) = l.map unOp := by unfold remOps Ac.after; simp [hq]
      refine ⟨pre ++ [phNum p], by rw [e, ← h1]; simp, ?_⟩
      have eg : (a.after l (p.run t.d)).got = a.got ++ [(p.run t.d).2.2] := by unfold Ac.after; simp [hq]
      rw [List.foldl_append, h2, eg]
      show stkStep room (S, a.got) (phNum p) = _
      have hr := hev.res (by rw [hq]; rfl)
      unfold stkStep phNum
      rcases hev.own (by rw [hq]; rfl) rfl with ⟨y, hy, h0, _, rfl | rfl⟩ | ⟨hy, ⟨rfl, _⟩ | ⟨y, rfl, h0, _⟩⟩
      · have e : S' = S := hit
        subst e
        rw [hy]
        simp only [Option.getD_some]
        have hr' : (p.run t.d).2.2 = -1 := hr
        rcases own_full h.rinv.dk hop hy h0 hq with ⟨_, h6⟩ | ⟨h5, _⟩
        · rw [if_pos h0, if_pos (by rw [h6, h.cap]), hr']
        · omega
      · have e : S' = S ++ [y] := hit
        subst e
        rw [hy]
        simp only [Option.getD_some]
        have hr' : (p.run t.d).2.2 = y := hr
        rcases own_full h.rinv.dk hop hy h0 hq with ⟨h5, _⟩ | ⟨_, h6⟩
        · omega
        · rw [if_pos h0, if_neg (by rw [← h.cap]; omega), hr']
      · have e : S' = S := hit
        subst e
        rw [hy]
        have hr' : (p.run t.d).2.2 = 0 := hr
        have he := own_empty h.rinv.dk hop hy hq hr'
        subst he
        simp [hr']
      · have e : S = S' ++ [y] := hit
        subst e
        rw [hy]
        have hr' : (p.run t.d).2.2 = y := hr
        simp [hr']
theorem SkInv.plays {room : Nat} {ops : List Int} {s : T × List (Nat × Int)} {S : List Int} (h : SkInv room ops s.1 S) (l : List Int) : ∃ S', SkInv room ops (lgPlays s l).1 S' := by
  induction l generalizing s S with
  | nil => exact ⟨S, h⟩
  | cons x l ih =>
    obtain ⟨S', h1⟩ := h.step x
    exact ih (s := lgStep s x) (by rw [lgStep_fst]; exact h1)
theorem rest_of {d : Dq} {S : List Int} (h : Dk d S) (hb : d.bottom = (d.top + S.length : Nat)) : d.rest = S := by
  unfold St.Dq.rest
  rw [show (d.bottom - d.top).toNat = S.length by omega]
  apply List.ext_getElem
  · simp
  · intro i h1 h2
    simp only [List.getElem_map, List.getElem_range]
    exact h.cell i _ (List.getElem?_eq_getElem h2)
theorem stack_end {room : Int} {lo : List Int} (h : St.okPlan room lo [] = true) (l : List Int) :
    (((lgPlays (St.mkT room lo [], []) (l ++ tailL 9)).1.d.rest, (lgPlays (St.mkT room lo [], []) (l ++ tailL 9)).1.gotOf 0)) = lo.foldl (stkStep room.toNat) ([], []) := by
  obtain ⟨h1, h2, h3, h4, h5, h6⟩ := okPlan_parts h
  have hun : (lo.map opOf).map unOp = lo := by
    rw [List.map_map]
    conv => rhs; rw [← List.map_id lo]
    refine List.map_congr_left fun x hx => ?_
    have := h4 x hx
    simp only [Function.comp, opOf, id]
    split <;> simp [unOp]
    omega
  obtain ⟨S, hS⟩ := SkInv.plays (s := (St.mkT room lo [], [])) (room := room.toNat) (ops := lo) (S := []) ⟨inv_mk h, by simp [St.mkT], by simp [St.mkT], fun a ha => by
    obtain rfl : (⟨lo.map opOf, none, []⟩ : Ac) = a := by simpa [St.mkT] using ha
    exact ⟨[], by simpa [remOps] using hun, rfl⟩⟩ (l ++ tailL 9)
  have hov := over_all h l
  obtain ⟨a, ha⟩ : ∃ a, (lgPlays (St.mkT room lo [], []) (l ++ tailL 9)).1.acts[0]? = some a := ⟨_, List.getElem?_eq_getElem hS.rinv.n0⟩
  obtain ⟨pre, e1, e2⟩ := hS.run a ha
  have hat : a.at = none := by
    unfold St.T.over at hov
    rw [List.all_eq_true] at hov
    have := hov a (List.mem_of_getElem? ha)
    unfold St.Ac.isOver at this
    exact Option.isNone_iff_eq_none.1 this
  obtain ⟨td, nx, gt⟩ := a
  cases nx with
  | some q => cases td <;> simp [Ac.at] at hat
  | none =>
    cases td with
    | cons op td => simp [Ac.at] at hat
    | nil =>
      simp [remOps] at e1
      subst e1
      have hb := hS.rinv.own _ ha
      rw [e2, rest_of hS.rinv.dk hb]
      unfold St.T.gotOf
      simp [ha]
end Go.Proofs.Ytajccigefoddiaa
