/- Each number that is pushed is greater than those before it. -/
import Derived.Test.YtajccigefoddiaaOrdRel
namespace Go.Proofs.Ytajccigefoddiaa
set_option linter.unusedVariables false
set_option linter.unusedSimpArgs false
open Go.RowKit
open St
def relab (c : Int) : List Int → List Int
  | [] => []
  | x :: xs => if 0 < x then (c + 1) :: relab (c + 1) xs else x :: relab c xs
/-- How many of the first k are pushed. -/
def cntP (l : List Int) (k : Nat) : Nat := ((l.take k).filter fun x => decide (0 < x)).length
theorem cntP_zero (l : List Int) : cntP l 0 = 0 := rfl
theorem cntP_le (l : List Int) (k : Nat) : cntP l k ≤ l.length := Nat.le_trans (List.length_filter_le _ _) (by rw [List.length_take]; omega)
theorem cntP_succ (l : List Int) (k : Nat) (x : Int) (h : l[k]? = some x) : cntP l (k + 1) = cntP l k + if 0 < x then 1 else 0 := by
  unfold cntP
  rw [List.take_add_one, h, List.filter_append, List.length_append]
  by_cases hx : 0 < x <;> simp [hx]
theorem relab_length (c : Int) (l : List Int) : (relab c l).length = l.length := by
  induction l generalizing c with
  | nil => rfl
  | cons x l ih => unfold relab; split <;> simp [ih]
theorem relab_get (c : Int) (l : List Int) (k : Nat) (x : Int) (h : l[k]? = some x) : (relab c l)[k]? = some (if 0 < x then c + cntP l k + 1 else x) := by
  induction l generalizing c k with
  | nil => simp at h
  | cons y l ih =>
    cases k with
    | zero =>
      simp at h; subst h
      unfold relab
      split <;> simp [cntP]
    | succ k =>
      have h' : l[k]? = some x := by simpa using h
      unfold relab
      by_cases hy : 0 < y
      · rw [if_pos hy, List.getElem?_cons_succ, ih _ _ h']
        have : cntP (y :: l) (k + 1) = cntP l k + 1 := by simp [cntP, hy]
        rw [this]
        split
        · congr 1; omega
        · rfl
      · rw [if_neg hy, List.getElem?_cons_succ, ih _ _ h']
        have : cntP (y :: l) (k + 1) = cntP l k := by simp [cntP, hy]
        rw [this]
/-- The row when the first k are done. -/
def mid (l : List Int) (k : Nat) : List Int := (relab 0 l).take k ++ l.drop k
theorem mid_zero (l : List Int) : mid l 0 = l := by simp [mid]
theorem mid_all (l : List Int) : mid l l.length = relab 0 l := by simp [mid, ← relab_length 0 l]
theorem mid_length (l : List Int) (k : Nat) : (mid l k).length = l.length := by simp [mid, relab_length]; omega
theorem mid_get (l : List Int) (k : Nat) (hk : k < l.length) : (mid l k)[k]? = l[k]? := by
  unfold mid
  rw [List.getElem?_append_right (by simp [relab_length]; omega)]
  simp [relab_length]
  congr 1
  omega
theorem mid_succ (l : List Int) (k : Nat) (x : Int) (h : l[k]? = some x) : mid l (k + 1) = if 0 < x then (mid l k).set k ((cntP l k : Int) + 1) else mid l k := by
  have hk := (List.getElem?_eq_some_iff.1 h).1
  have hr := relab_get 0 l k x h
  unfold mid
  have hd : l.drop k = x :: l.drop (k + 1) := by
    rw [List.drop_eq_getElem_cons hk]
    congr 1
    exact (List.getElem?_eq_some_iff.1 h).2
  have ht : (relab 0 l).take (k + 1) = (relab 0 l).take k ++ [if 0 < x then 0 + (cntP l k : Int) + 1 else x] := by rw [List.take_add_one, hr]; rfl
  rw [ht, hd]
  split
  · rw [List.set_append]
    simp [relab_length]
    rw [if_neg (by omega)]
    simp [Nat.min_eq_left (Nat.le_of_lt hk)]
  · simp
theorem relab_inc (c : Int) (hc : 0 ≤ c) (l : List Int) : (c :: (relab c l).filter (fun x => decide (0 < x))).Pairwise (· < ·) := by
  induction l generalizing c with
  | nil => simp [relab]
  | cons x l ih =>
    unfold relab
    split
    · have h1 := ih (c + 1) (by omega)
      rw [List.filter_cons_of_pos (by simp; omega)]
      refine List.pairwise_cons.2 ⟨fun y hy => ?_, h1⟩
      rcases List.mem_cons.1 hy with rfl | hy
      · omega
      · have := (List.pairwise_cons.1 h1).1 y hy
        omega
    · rename_i hx
      rw [List.filter_cons_of_neg (by simpa using hx)]
      exact ih c hc
/-- What was stolen last. -/
def lastS (log : List (Nat × Int)) : Int := (0 :: stl log).getLast (by simp)
theorem lastS_nil : lastS [] = 0 := rfl
theorem lastS_snoc (log : List (Nat × Int)) (e : Nat × Int) : lastS (log ++ [e]) = if e.1 ≠ 0 ∧ 0 < e.2 then e.2 else lastS log := by
  unfold lastS
  simp only [stl_snoc]
  split
  · rw [List.getLast_cons (by simp)]; simp
  · simp
theorem lastS_take {log : List (Nat × Int)} {k : Nat} {e : Nat × Int} (h : log[k]? = some e) : lastS (log.take (k + 1)) = if e.1 ≠ 0 ∧ 0 < e.2 then e.2 else lastS (log.take k) := by
  rw [List.take_add_one, h]
  exact lastS_snoc _ _
theorem lastS_lt {log : List (Nat × Int)} (h : (0 :: stl log).Pairwise (· < ·)) {k : Nat} {e : Nat × Int} (he : log[k]? = some e) (h1 : e.1 ≠ 0) (h2 : 0 < e.2) : lastS (log.take k) < e.2 := by
  have hk := (List.getElem?_eq_some_iff.1 he).1
  have hs : log = log.take k ++ [e] ++ log.drop (k + 1) := by
    conv => lhs; rw [← List.take_append_drop (k + 1) log, List.take_add_one, he]
    rfl
  rw [hs] at h
  have e3 : stl (log.take k ++ [e] ++ log.drop (k + 1)) = stl (log.take k) ++ [e.2] ++ stl (log.drop (k + 1)) := by
    unfold stl
    rw [List.filterMap_append, List.filterMap_append]
    congr 2
    simp [List.filterMap_cons, h1, h2]
  rw [e3] at h
  have h4 : ((0 :: stl (log.take k)) ++ [e.2]).Pairwise (· < ·) := by
    refine h.sublist ?_
    rw [List.cons_append]
    exact (List.sublist_append_left _ _).cons_cons _
  exact (List.pairwise_append.1 h4).2.2 _ (List.getLast_mem _) e.2 (by simp)
end Go.Proofs.Ytajccigefoddiaa
