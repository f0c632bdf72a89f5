/- Each number that was pushed is taken, stolen or left, once. -/
import Derived.Test.YtajccigefoddiaaStkRel
namespace Go.Proofs.Ytajccigefoddiaa
set_option linter.unusedVariables false
set_option linter.unusedSimpArgs false
open Go.RowKit
open St
/-- What the log says: how many of the owner's operations have ended, what went in, what came out; none if an answer is none that may be. -/
def oncStep (ops : List Int) (s : Option (Nat × List Int × List Int)) (e : Nat × Int) : Option (Nat × List Int × List Int) :=
  match s with
  | none => none
  | some (at_, ins, outs) =>
    if 0 < e.1 then some (at_, ins, if 0 < e.2 then outs ++ [e.2] else outs)
    else match ops[at_]? with
      | none => none
      | some op =>
        if 0 < op ∧ e.2 = op then some (at_ + 1, ins ++ [op], outs)
        else if (0 < op ∧ e.2 ≠ -1) ∨ (op = 0 ∧ e.2 < 0) then none
        else if op = 0 ∧ 0 < e.2 then some (at_ + 1, ins, outs ++ [e.2])
        else some (at_ + 1, ins, outs)
structure OnInv (ops : List Int) (t : T) (log : List (Nat × Int)) (S : List Int) : Prop where
  rinv : RInv t S
  run : ∀ a, t.acts[0]? = some a → ∃ pre ins outs, pre ++ remOps a = ops ∧ log.foldl (oncStep ops) (some (0, [], [])) = some (pre.length, ins, outs) ∧ ins.Perm (outs ++ S)
  nn : ∀ x ∈ ops, 0 ≤ x
theorem OnInv.step {ops : List Int} {t : T} {S : List Int} {log : List (Nat × Int)} (h : OnInv ops t log S) (h9 : t.acts.length ≤ 9) (x : Int) : ∃ S', OnInv ops (lgStep (t, log) x).1 (lgStep (t, log) x).2 S' := by
  rcases lgStep_cases t log x h9 with e | ⟨i, a, p, l, rfl, ha, hat, e⟩
  · rw [e]; exact ⟨S, h⟩
  · rw [e]
    have hil : i < t.acts.length := (List.getElem?_eq_some_iff.1 ha).1
    obtain ⟨S', ev, hS', hit, hev, _⟩ := h.rinv.step ha hat
    refine ⟨S', hS', fun b hb => ?_, h.nn⟩
    by_cases hi : i = 0
    · subst hi
      simp only at hb ⊢
      rw [List.getElem?_set_self hil] at hb
      cases hb
      obtain ⟨pre, ins, outs, h1, h2, h3⟩ := h.run a ha
      rw [at_rem hat] at h1
      cases hq : (p.run t.d).2.1 with
      | some q =>
        obtain ⟨rfl, _⟩ := hev.go (by rw [hq]; rfl)
        have e : S' = S := hit
        subst e
        have e : remOps (a.after l (p.run t.d)) = phNum q :: l.map unOp := by unfold remOps Ac.after; simp [hq]
        have e2 : phNum q = phNum p := by unfold phNum; rw [hev.push rfl q hq]
        exact ⟨pre, ins, outs, by rw [e, e2, h1], by simpa using h2, h3⟩
      | none =>
        have e : remOps (a.after l (p.run t.d)) = l.map unOp := by unfold remOps Ac.after; simp [hq]
        have hat2 : ops[pre.length]? = some (phNum p) := by rw [← h1]; simp
        have hr := hev.res (by rw [hq]; rfl)
        simp only [Option.isNone_none, if_true]
        have key : ∀ (at2 : Nat) (ins2 outs2 : List Int), oncStep ops (some (pre.length, ins, outs)) (0, (p.run t.d).2.2) = some (pre.length + 1, ins2, outs2) → ins2.Perm (outs2 ++ S') → ∃ pre ins outs, pre ++ remOps (a.after l (p.run t.d)) = ops ∧ (log ++ [(0, (p.run t.d).2.2)]).foldl (oncStep ops) (some (0, [], [])) = some (pre.length, ins, outs) ∧ ins.Perm (outs ++ S') := fun at2 ins2 outs2 k1 k2 => by
          refine ⟨pre ++ [phNum p], ins2, outs2, by rw [e, ← h1]; simp, ?_, k2⟩
          rw [List.foldl_append, h2]
          simpa using k1
        rcases hev.own (by rw [hq]; rfl) rfl with ⟨y, hy, h0, _, rfl | rfl⟩ | ⟨hy, ⟨rfl, _⟩ | ⟨y, rfl, h0, _⟩⟩
        · have e : S' = S := hit
          subst e
          have hn : phNum p = y := by unfold phNum; rw [hy]; rfl
          have hr' : (p.run t.d).2.2 = -1 := hr
          refine key 0 ins outs ?_ h3
          unfold oncStep
          simp only [hat2, hn, hr']
          rw [if_neg (by omega), if_neg (by omega), if_neg (by omega), if_neg (by omega)]
        · have e : S' = S ++ [y] := hit
          subst e
          have hn : phNum p = y := by unfold phNum; rw [hy]; rfl
          have hr' : (p.run t.d).2.2 = y := hr
          refine key 0 (ins ++ [y]) outs ?_ (by rw [← List.append_assoc]; exact h3.append_right _)
          unfold oncStep
          simp only [hat2, hn, hr']
          rw [if_neg (by omega), if_pos ⟨h0, by trivial⟩]
        · have e : S' = S := hit
          subst e
          have hn : phNum p = 0 := by unfold phNum; rw [hy]; rfl
          have hr' : (p.run t.d).2.2 = 0 := hr
          refine key 0 ins outs ?_ h3
          unfold oncStep
          simp only [hat2, hn, hr']
          rw [if_neg (by omega), if_neg (by omega), if_neg (by omega), if_neg (by omega)]
        · have e : S = S' ++ [y] := hit
          subst e
          have hn : phNum p = 0 := by unfold phNum; rw [hy]; rfl
          have hr' : (p.run t.d).2.2 = y := hr
          refine key 0 ins (outs ++ [y]) ?_ (h3.trans (by rw [List.append_assoc]; exact List.Perm.append_left _ List.perm_append_comm))
          unfold oncStep
          simp only [hat2, hn, hr']
          rw [if_neg (by omega), if_neg (by omega), if_neg (by omega), if_pos ⟨by trivial, h0⟩]
    · simp only at hb ⊢
      rw [List.getElem?_set_ne hi] at hb
      obtain ⟨pre, ins, outs, h1, h2, h3⟩ := h.run b hb
      by_cases hq : (p.run t.d).2.1.isNone = true
      · rw [if_pos hq]
        have hr := hev.res hq
        have ho : oncStep ops (some (pre.length, ins, outs)) (i, (p.run t.d).2.2) = some (pre.length, ins, if 0 < (p.run t.d).2.2 then outs ++ [(p.run t.d).2.2] else outs) := by
          unfold oncStep
          simp only
          rw [if_pos (by omega)]
        refine ⟨pre, ins, _, h1, by rw [List.foldl_append, h2]; exact ho, ?_⟩
        rcases hev.thief hq (by omega) with ⟨rfl, _⟩ | ⟨rfl, _⟩ | ⟨y, rfl, hy, _⟩
        · have e : S' = S := hit
          subst e
          rw [hr]; exact h3
        · have e : S' = S := hit
          subst e
          rw [hr]; exact h3
        · have e : S = y :: S' := hit
          subst e
          have hr' : (p.run t.d).2.2 = y := hr
          rw [hr', if_pos hy]
          exact h3.trans (by simp)
      · rw [if_neg hq]
        obtain ⟨rfl, _⟩ := hev.go (eq_false_of_ne_true hq)
        have e : S' = S := hit
        subst e
        exact ⟨pre, ins, outs, h1, h2, h3⟩
theorem OnInv.plays {ops : List Int} {s : T × List (Nat × Int)} {S : List Int} (h : OnInv ops s.1 s.2 S) (h9 : s.1.acts.length ≤ 9) (l : List Int) : ∃ S', OnInv ops (lgPlays s l).1 (lgPlays s l).2 S' := by
  induction l generalizing s S with
  | nil => exact ⟨S, h⟩
  | cons x l ih =>
    have hle : (lgStep s x).1.acts.length = s.1.acts.length := acts_len s [x]
    obtain ⟨S', h1⟩ := h.step h9 x
    exact ih (s := lgStep s x) h1 (by rw [hle]; exact h9)
/-- At the end the log is a good one, and what went in came out or is left. -/
theorem once_end {room : Int} {lo lt : List Int} (h : St.okPlan room lo lt = true) (l : List Int) :
    ∃ ins outs, (lgPlays (St.mkT room lo lt, []) (l ++ tailL 9)).2.foldl (oncStep lo) (some (0, [], [])) = some (lo.length, ins, outs) ∧ ins.Perm (outs ++ (lgPlays (St.mkT room lo lt, []) (l ++ tailL 9)).1.d.rest) := by
  obtain ⟨h1, h2, h3, h4, h5, h6⟩ := okPlan_parts h
  have hun : (lo.map opOf).map unOp = lo := by
    rw [List.map_map]
    conv => rhs; rw [← List.map_id lo]
    refine List.map_congr_left fun x hx => ?_
    have := h4 x hx
    simp only [Function.comp, opOf, id]
    split <;> simp [unOp]
    omega
  obtain ⟨S, hS⟩ := OnInv.plays (s := (St.mkT room lo lt, [])) (ops := lo) (S := []) ⟨inv_mk h, fun a ha => by
    obtain rfl : (⟨lo.map opOf, none, []⟩ : Ac) = a := by simpa [St.mkT] using ha
    exact ⟨[], [], [], by simpa [remOps] using hun, rfl, by simp⟩, h4⟩ (by simp [St.mkT]; omega) (l ++ tailL 9)
  have hov := over_all h l
  obtain ⟨a, ha⟩ : ∃ a, (lgPlays (St.mkT room lo lt, []) (l ++ tailL 9)).1.acts[0]? = some a := ⟨_, List.getElem?_eq_getElem hS.rinv.n0⟩
  obtain ⟨pre, ins, outs, e1, e2, e3⟩ := hS.run a ha
  have hat : a.at = none := by
    unfold St.T.over at hov
    rw [List.all_eq_true] at hov
    have := hov a (List.mem_of_getElem? ha)
    unfold St.Ac.isOver at this
    exact Option.isNone_iff_eq_none.1 this
  obtain ⟨td, nx, gt⟩ := a
  cases nx with
  | some q => cases td <;> simp [Ac.at] at hat
  | none =>
    cases td with
    | cons op td => simp [Ac.at] at hat
    | nil =>
      simp [remOps] at e1
      subst e1
      have hb := hS.rinv.own _ ha
      rw [rest_of hS.rinv.dk hb]
      exact ⟨ins, outs, e2, e3⟩
end Go.Proofs.Ytajccigefoddiaa
