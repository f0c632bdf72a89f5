/- What the small calls of a table do. -/
import Derived.Test.YtpkldcnkadfhgaaRep
namespace Go.Proofs.Ytpkldcnkadfhgaa
open Go.RowKit

/-- A call that turns nothing. -/
def still (w : World) (v : Value) (e : Ending) (w' : World) : Prop := e = .returned v ∧ Below w.heap.size w w'

theorem ptrs_len (ls : List Nat) : (ptrs ls).length = ls.length := by simp [ptrs]
theorem Rep.form {W : World} {bl : Blocks} {tb : Nat} {lv : Value} {wv : Nat → Value} {ls : List Nat} {t : Lk.T} (h : Rep W bl tb lv wv ls t) :
    ∃ p cap, lv = .slice p ls.length cap ∧ ls.length ≤ cap ∧ cap ≤ maxLen ∧ (0 < ls.length → ∃ g, p = some ⟨g, 0, none⟩ ∧ g < W.heap.size ∧ ∀ (i : Nat) lb, ls[i]? = some lb → W.cell? ⟨g, i, none⟩ = some (.pointer (some ⟨lb, 0, none⟩))) := by
  have hr := h.row
  rw [← h.len] at hr
  rcases hr.2 with ⟨e, h0⟩ | ⟨g, cap, cur, e, hbg, hg, h1, h2, h3, h4⟩
  · exact ⟨none, 0, by rw [e, h0], by omega, Nat.zero_le _, fun hp => by omega⟩
  · refine ⟨_, cap, e, h1, h2, fun _ => ⟨g, rfl, (Array.getElem?_eq_some_iff.1 hg).1, fun i lb hi => ?_⟩⟩
    have hi' : i < ls.length := (List.getElem?_eq_some_iff.1 hi).1
    have : (ptrs ls)[i]? = some (.pointer (some ⟨lb, 0, none⟩)) := by unfold ptrs; rw [List.getElem?_map, hi]; rfl
    rw [← h4, List.getElem?_take, if_pos (by omega), Array.getElem?_toList] at this
    simp [World.cell?, hg, this]

set_option maxRecDepth 100000 in
theorem hasLock_any (bl : Blocks) (tb : Nat) (t : Lk.T) (k : Int) (w : World) (h : Tab w bl tb t) :
    Calls Try.prog 42 #[.pointer (some ⟨tb, 0, none⟩), .int .i64 k] w (still w (.bool (decide (1 ≤ k ∧ k ≤ t.ls.length)))) := by
  have hn := h.ok.n16
  obtain ⟨⟨lv, wv, ls, h⟩, -⟩ := h
  obtain ⟨p, cap, e, -⟩ := h.form
  have hl := h.len
  have c0 : w.cell? ⟨tb, 0, none⟩ = some lv := h.blk.cell 0 (by omega)
  rw [e] at c0
  rw [hl] at c0
  clear h e
  unfold still
  generalize hd : decide (1 ≤ k ∧ k ≤ (t.ls.length : Int)) = d
  cases d with
  | true =>
    simp at hd
    have h1 := hd.1
    have h2 := hd.2
    go_enter Try.func42, Try.ntmps42
    go_wp2
    go_ret
    exact ⟨by first | (simp; done) | (simp; omega), Below.refl _ _⟩
  | false =>
    simp at hd
    go_enter Try.func42, Try.ntmps42
    go_wp2
    all_goals go_ret
    all_goals exact ⟨by first | (simp; done) | (simp; omega), Below.refl _ _⟩

set_option maxRecDepth 100000 in
theorem isWaiting_any (bl : Blocks) (tb : Nat) (t : Lk.T) (k : Int) (w : World) (h : Tab w bl tb t) (hk : (Lit.int .i64 k).wf = true) :
    Calls Try.prog 39 #[.pointer (some ⟨tb, 0, none⟩), .int .i64 k] w (still w (.bool (Lk.khas t.waits k))) := by
  obtain ⟨⟨lv, wv, ls, h⟩, -⟩ := h
  have c1 : w.cell? ⟨tb, 1, none⟩ = some (.map (bl (2, 0))) := h.blk.cell 1 (by omega)
  have hw := h.waits
  have h0 := h.waits0
  clear h
  cases hm : bl (2, 0) with
  | none =>
    rw [hm] at c1
    rw [h0 hm]
    go_enter Try.func39, Try.ntmps39
    go_wp2_with (at_lookup; refine wpList_has_nil _ rfl _ _ rfl k rfl rfl hk ?_)
    go_ret
    exact ⟨rfl, Below.refl _ _⟩
  | some m =>
    rw [hm] at c1
    have hM := hw m hm
    clear hw h0 hm
    go_enter Try.func39, Try.ntmps39
    go_wp2_with (at_lookup; refine wpList_has _ rfl _ _ rfl m _ k rfl hM rfl hk ?_)
    go_ret
    exact ⟨rfl, Below.refl _ _⟩

/-- The first error. -/
def chk (n : Nat) (k p : Int) : Int := if p < 1 ∨ 1000000 < p then 2 else if 1 ≤ k ∧ k ≤ n then 0 else 6

set_option maxRecDepth 100000 in
theorem check_any (bl : Blocks) (tb : Nat) (t : Lk.T) (k p : Int) (w : World) (h : Tab w bl tb t) :
    Calls Try.prog 38 #[.pointer (some ⟨tb, 0, none⟩), .int .i64 k, .int .i64 p] w (still w (.int .i64 (chk t.ls.length k p))) := by
  have HL := Lib.hid (hasLock_any bl tb t k w h)
  unfold still at HL
  clear h
  unfold chk
  by_cases h1 : p < 1
  · rw [if_pos (.inl h1)]
    go_enter Try.func38, Try.ntmps38
    go_wp2
    go_ret
    exact ⟨rfl, Below.refl _ _⟩
  · by_cases h2 : 1000000 < p
    · rw [if_pos (.inr h2)]
      go_enter Try.func38, Try.ntmps38
      go_wp2
      go_ret
      exact ⟨rfl, Below.refl _ _⟩
    · rw [if_neg (by omega)]
      by_cases h3 : 1 ≤ k ∧ k ≤ (t.ls.length : Int)
      · rw [if_pos h3]
        rw [show decide (1 ≤ k ∧ k ≤ (t.ls.length : Int)) = true by simpa using h3] at HL
        clear h3
        go_enter Try.func38, Try.ntmps38
        go_wp2_with fail
        refine HL.out.mono ?_
        rintro e w1 ⟨rfl, hb⟩
        have HB := Lib.hid hb
        clear hb
        go_wp2
        go_ret
        exact ⟨rfl, HB.out⟩
      · rw [if_neg h3]
        rw [show decide (1 ≤ k ∧ k ≤ (t.ls.length : Int)) = false by simpa using h3] at HL
        clear h3
        go_enter Try.func38, Try.ntmps38
        go_wp2_with fail
        refine HL.out.mono ?_
        rintro e w1 ⟨rfl, hb⟩
        have HB := Lib.hid hb
        clear hb
        go_wp2
        go_ret
        exact ⟨rfl, HB.out⟩
set_option maxRecDepth 100000 in
theorem check_nil (k p : Int) (w : World) : Calls Try.prog 38 #[.pointer none, .int .i64 k, .int .i64 p] w (still w (.int .i64 2)) := by
  go_enter Try.func38, Try.ntmps38
  go_wp2
  go_ret
  exact ⟨rfl, Below.refl _ _⟩

/-- The blocks of a new table. -/
def bl0 (tb : Nat) : Blocks := fun r => if r = (0, 0) then some tb else none
set_option maxRecDepth 100000 in
theorem new_any (w : World) : Calls Try.prog 10 #[] w fun e w' => e = .returned (.pointer (some ⟨w.heap.size, 0, none⟩)) ∧ Tab w' (bl0 w.heap.size) w.heap.size Lk.new ∧ Below w.heap.size w w' := by
  go_enter Try.func10, Try.ntmps10
  go_wp2
  go_ret
  have e2 : bl0 w.heap.size (2, 0) = none := by simp [bl0]
  have e1 : bl0 w.heap.size (1, 0) = none := by simp [bl0]
  refine ⟨rfl, ⟨⟨.slice none 0 0, fun _ => .slice none 0 0, [], ?_, ?_, by simp [bl0], by rw [e1]; rfl, ?_, World.ownsRow_nil _ _ _ _, rfl, fun m e => (by rw [e2] at e; cases e), fun _ => rfl, fun i l e => (by simp [Lk.new] at e)⟩, by simp [Lk.new], by simp [Lk.new], List.Pairwise.nil, fun i l p e => (by simp [Lk.new] at e), fun p v e => (by simp [Lk.new] at e)⟩, one _ _⟩
  · intro r r' k e e'
    unfold bl0 at e e'
    split at e
    · split at e'
      · simp_all
      · cases e'
    · cases e
  · intro r k e
    unfold bl0 at e
    split at e
    · cases e; simp
    · cases e
  · rw [e2]
    refine (Blk.new w _ _).ext fun o ho => ?_
    have : o = 0 ∨ o = 1 := by simp at ho; omega
    rcases this with rfl | rfl <;> rfl
end Go.Proofs.Ytpkldcnkadfhgaa
