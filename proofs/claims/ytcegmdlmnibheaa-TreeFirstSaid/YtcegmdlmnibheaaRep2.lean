/- A tree in memory: a task or a scope more. -/
import Derived.Test.YtcegmdlmnibheaaRep
namespace Go.Proofs.Ytcegmdlmnibheaa
set_option linter.unusedVariables false
set_option linter.unusedSimpArgs false
open Go.RowKit

def Lay.addT (L : Lay) (n B : Nat) (v : Value) : Lay := { L with tk := fun k => if k = n then B else L.tk k, ov := fun k => if k = n then .slice none 0 0 else L.ov k, tv := v }
def Lay.addS (L : Lay) (n B : Nat) (v : Value) : Lay := { L with sc := fun k => if k = n then B else L.sc k, kv := fun k => if k = n then .slice none 0 0 else L.kv k, sv := v }
theorem Lay.scP_addT (L : Lay) (n B : Nat) (v : Value) : scP (L.addT n B v) = scP L := by funext s; cases s <;> rfl
theorem Lay.tkP_addT (L : Lay) {n B : Nat} {v : Value} {i : Nat} (h : i < n) : tkP (L.addT n B v) i = tkP L i := by
  have : i ≠ n := by omega
  simp [tkP, Lay.addT, this]
theorem Lay.tkP_addS (L : Lay) (n B : Nat) (v : Value) : tkP (L.addS n B v) = tkP L := rfl
theorem Lay.scP_addS (L : Lay) {n B : Nat} {v : Value} {s : Option Nat} (h : ∀ j, s = some j → j < n) : scP (L.addS n B v) s = scP L s := by
  cases s with
  | none => rfl
  | some j => have : j ≠ n := by have := h j rfl; omega
              simp [scP, Lay.addS, this]

theorem snoc_at {α : Type} {l : List α} {j : Nat} {x y : α} (h : (l ++ [x])[j]? = some y) : (j = l.length ∧ y = x) ∨ (j < l.length ∧ l[j]? = some y) := by
  by_cases e : j < l.length
  · rw [List.getElem?_append_left e] at h; exact .inr ⟨e, h⟩
  · rw [List.getElem?_append_right (by omega)] at h
    have hj : j - l.length = 0 := by
      have := (List.getElem?_eq_some_iff.1 h).1; simp at this; omega
    rw [hj] at h
    simp at h
    exact .inl ⟨by omega, h.symm⟩

section
variable {W W' : World} {own : Own} {tb : Nat} {L : Lay} {t : Tr.T}
theorem Rep.addT (h : Rep W own tb L t) {B : Nat} {v : Value} {s : Option Nat} (hF : Fr (fun k => k = tb ∨ L.tv.ownBlock = some k) W W') (hBge : W.heap.size ≤ B) (hB : Blk W' B (tkC (L.addT t.ts.length B v) t.ts.length (Tr.tk0 s))) (htree : Blk W' tb [v, L.sv])
    (hv : v.ownBlock = L.tv.ownBlock ∨ ∃ g, v.ownBlock = some g ∧ W.heap.size ≤ g ∧ g ≠ B) (hrow : W'.ownsRow 0 101 1 v (t.ts.length + 1) ((List.range t.ts.length).map (tkP L) ++ [ptr B])) (hs : ∀ j, s = some j → j < t.ss.length) :
    Rep W' (put (put own (some B) (.tk t.ts.length)) v.ownBlock .tl) tb (L.addT t.ts.length B v) (Tr.addT t s) := by
  have p1 := put_keep own (b := some B) (r := .tk t.ts.length) (n := W.heap.size) (fun k e => by cases e; exact .inr hBge) h.lt
  have p2 : (∀ k r, own k = some r → put (put own (some B) (.tk t.ts.length)) v.ownBlock .tl k = some r) := fun k r e => by
    unfold put
    by_cases hk : v.ownBlock = some k
    · rw [if_pos hk]
      rcases hv with hv | ⟨g, hv, hg, -⟩
      · rw [hv] at hk; have := h.tlo k hk; rw [this] at e; exact e
      · rw [hv] at hk; cases hk; have := h.lt _ _ e; omega
    · rw [if_neg hk]; exact p1.1 k r e
  have hvB : v.ownBlock ≠ some B := fun e => by
    rcases hv with hv | ⟨g, hv, hg, hgb⟩
    · rw [hv] at e; have := h.lt _ _ (h.tlo _ e); omega
    · rw [hv] at e; cases e; exact hgb rfl
  have hBo : put (put own (some B) (.tk t.ts.length)) v.ownBlock .tl B = some (.tk t.ts.length) := by
    unfold put; rw [if_neg hvB, if_pos rfl]
  have key : ∀ k r, (k = tb ∨ L.tv.ownBlock = some k) → own k = some r → r = .tree ∨ r = .tl := fun k r e e' => by
    rcases e with e | e
    · subst e; rw [h.hT] at e'; exact .inl (Option.some.inj e').symm
    · rw [h.tlo k e] at e'; exact .inr (Option.some.inj e').symm
  refine ⟨fun k r e => ?_, p2 _ _ h.hT, htree, fun k e => ?_, fun k e => p2 _ _ (h.slo k e), ?_, ?_, fun i x e => ?_, fun j y e => ?_, ?_⟩
  · unfold put at e
    split at e
    · rename_i hk; exact (hrow.lt k hk).2
    · split at e
      · rename_i hk; cases hk; exact hB.lt
      · exact Nat.lt_of_lt_of_le (h.lt k r e) hF.size
  · have e' : v.ownBlock = some k := e
    unfold put; rw [if_pos e']
  · have e1 : (List.range (t.ts.length + 1)).map (tkP (L.addT t.ts.length B v)) = (List.range t.ts.length).map (tkP L) ++ [ptr B] := by
      rw [List.range_succ, List.map_append]
      congr 1
      · exact List.map_congr_left fun i hi => Lay.tkP_addT L (List.mem_range.1 hi)
      · simp [tkP, Lay.addT]
    have e2 : (Tr.addT t s).ts.length = t.ts.length + 1 := by simp [Tr.addT]
    rw [e2, e1]; exact hrow
  · rw [Lay.scP_addT]
    exact owns_fr h.srow hF fun k e e' => by rcases key _ _ e' (h.slo k e) with h | h <;> simp at h
  · rcases snoc_at e with ⟨rfl, rfl⟩ | ⟨hi, e⟩
    · refine ⟨by simpa [Lay.addT] using hBo, by simpa [Lay.addT] using hB, fun k e => by simp [Lay.addT, Value.ownBlock] at e, ?_⟩
      simpa [Lay.addT, Tr.tk0] using World.ownsRow_nil W' 0 104 1
    · have hJ := (h.tk i x e).fr hF fun k hk => ⟨fun e' => by rcases key _ _ hk e' with h | h <;> simp at h, fun e' => by rcases key _ _ hk e' with h | h <;> simp at h⟩
      have hne : i ≠ t.ts.length := by omega
      have e1 : (L.addT t.ts.length B v).ov i = L.ov i := by simp [Lay.addT, hne]
      have e2 : (L.addT t.ts.length B v).tk i = L.tk i := by simp [Lay.addT, hne]
      refine ⟨by rw [e2]; exact p2 _ _ hJ.mine, ?_, fun k e => ?_, ?_⟩
      · have : tkC (L.addT t.ts.length B v) i x = tkC L i x := by unfold tkC; rw [e1, Lay.scP_addT]
        rw [this, e2]; exact hJ.blk
      · rw [e1] at e; exact p2 _ _ (hJ.lown k e)
      · rw [e1, Lay.scP_addT]; exact hJ.row
  · have hJ := (h.sc j y e).fr hF fun k hk => ⟨fun e' => by rcases key _ _ hk e' with h | h <;> simp at h, fun e' => by rcases key _ _ hk e' with h | h <;> simp at h⟩
    refine ⟨p2 _ _ hJ.mine, ?_, fun k e => p2 _ _ (hJ.lown k e), ?_⟩
    · have : scC (L.addT t.ts.length B v) j y = scC L j y := by unfold scC; rw [Lay.tkP_addT L (h.rng.own j y e)]; rfl
      rw [this]; exact hJ.blk
    · have : y.tks.map (tkP (L.addT t.ts.length B v)) = y.tks.map (tkP L) := List.map_congr_left fun i hi => Lay.tkP_addT L (h.rng.tks j y i e hi)
      rw [this]; exact hJ.row
  · refine ⟨fun i x j e e' => ?_, fun i x j e e' => ?_, fun j y e => ?_, fun j y i e hi => ?_⟩
    · rcases snoc_at e with ⟨rfl, rfl⟩ | ⟨hi, e⟩
      · exact hs j e'
      · exact h.rng.sc i x j e e'
    · rcases snoc_at e with ⟨rfl, rfl⟩ | ⟨hi, e⟩
      · simp [Tr.tk0] at e'
      · exact h.rng.op i x j e e'
    · have := h.rng.own j y e; simp [Tr.addT]; omega
    · have := h.rng.tks j y i e hi; simp [Tr.addT]; omega

theorem Rep.addS (h : Rep W own tb L t) {B : Nat} {v : Value} {i : Nat} {sup : Bool} (hF : Fr (fun k => k = tb ∨ L.sv.ownBlock = some k) W W') (hBge : W.heap.size ≤ B) (hB : Blk W' B (scC (L.addS t.ss.length B v) t.ss.length (Tr.sc0 i sup))) (htree : Blk W' tb [L.tv, v])
    (hv : v.ownBlock = L.sv.ownBlock ∨ ∃ g, v.ownBlock = some g ∧ W.heap.size ≤ g ∧ g ≠ B) (hrow : W'.ownsRow 0 104 1 v (t.ss.length + 1) ((List.range t.ss.length).map (fun j => scP L (some j)) ++ [ptr B])) (hi : i < t.ts.length) :
    Rep W' (put (put own (some B) (.sc t.ss.length)) v.ownBlock .sl) tb (L.addS t.ss.length B v) { t with ss := t.ss ++ [Tr.sc0 i sup] } := by
  have p1 := put_keep own (b := some B) (r := .sc t.ss.length) (n := W.heap.size) (fun k e => by cases e; exact .inr hBge) h.lt
  have p2 : (∀ k r, own k = some r → put (put own (some B) (.sc t.ss.length)) v.ownBlock .sl k = some r) := fun k r e => by
    unfold put
    by_cases hk : v.ownBlock = some k
    · rw [if_pos hk]
      rcases hv with hv | ⟨g, hv, hg, -⟩
      · rw [hv] at hk; have := h.slo k hk; rw [this] at e; exact e
      · rw [hv] at hk; cases hk; have := h.lt _ _ e; omega
    · rw [if_neg hk]; exact p1.1 k r e
  have hvB : v.ownBlock ≠ some B := fun e => by
    rcases hv with hv | ⟨g, hv, hg, hgb⟩
    · rw [hv] at e; have := h.lt _ _ (h.slo _ e); omega
    · rw [hv] at e; cases e; exact hgb rfl
  have hBo : put (put own (some B) (.sc t.ss.length)) v.ownBlock .sl B = some (.sc t.ss.length) := by
    unfold put; rw [if_neg hvB, if_pos rfl]
  have key : ∀ k r, (k = tb ∨ L.sv.ownBlock = some k) → own k = some r → r = .tree ∨ r = .sl := fun k r e e' => by
    rcases e with e | e
    · subst e; rw [h.hT] at e'; exact .inl (Option.some.inj e').symm
    · rw [h.slo k e] at e'; exact .inr (Option.some.inj e').symm
  refine ⟨fun k r e => ?_, p2 _ _ h.hT, htree, fun k e => p2 _ _ (h.tlo k e), fun k e => ?_, ?_, ?_, fun i x e => ?_, fun j y e => ?_, ?_⟩
  · unfold put at e
    split at e
    · rename_i hk; exact (hrow.lt k hk).2
    · split at e
      · rename_i hk; cases hk; exact hB.lt
      · exact Nat.lt_of_lt_of_le (h.lt k r e) hF.size
  · have e' : v.ownBlock = some k := e
    unfold put; rw [if_pos e']
  · exact owns_fr h.trow hF fun k e e' => by rcases key _ _ e' (h.tlo k e) with h | h <;> simp at h
  · have e1 : (List.range (t.ss.length + 1)).map (fun j => scP (L.addS t.ss.length B v) (some j)) = (List.range t.ss.length).map (fun j => scP L (some j)) ++ [ptr B] := by
      rw [List.range_succ, List.map_append]
      congr 1
      · exact List.map_congr_left fun i hi => Lay.scP_addS L fun j e => by cases e; exact List.mem_range.1 hi
      · simp [scP, Lay.addS]
    have e2 : (t.ss ++ [Tr.sc0 i sup]).length = t.ss.length + 1 := by simp
    show W'.ownsRow 0 104 1 v (t.ss ++ [Tr.sc0 i sup]).length _
    rw [e2, e1]; exact hrow
  · have hJ := (h.tk i x e).fr hF fun k hk => ⟨fun e' => by rcases key _ _ hk e' with h | h <;> simp at h, fun e' => by rcases key _ _ hk e' with h | h <;> simp at h⟩
    have e1 : x.op.map (scP (L.addS t.ss.length B v)) = x.op.map (scP L) := List.map_congr_left fun s hs => Lay.scP_addS L fun j ej => h.rng.op i x j e (ej ▸ hs)
    refine ⟨p2 _ _ hJ.mine, ?_, fun k e => p2 _ _ (hJ.lown k e), ?_⟩
    · have : tkC (L.addS t.ss.length B v) i x = tkC L i x := by unfold tkC; rw [Lay.scP_addS L fun j ej => h.rng.sc i x j e ej]; rfl
      rw [this]; exact hJ.blk
    · rw [e1]; exact hJ.row
  · rcases snoc_at e with ⟨rfl, rfl⟩ | ⟨hj, e⟩
    · refine ⟨by simpa [Lay.addS] using hBo, by simpa [Lay.addS] using hB, fun k e => by simp [Lay.addS, Value.ownBlock] at e, ?_⟩
      simpa [Lay.addS, Tr.sc0] using World.ownsRow_nil W' 0 101 1
    · have hJ := (h.sc j y e).fr hF fun k hk => ⟨fun e' => by rcases key _ _ hk e' with h | h <;> simp at h, fun e' => by rcases key _ _ hk e' with h | h <;> simp at h⟩
      have hne : j ≠ t.ss.length := by omega
      have e1 : (L.addS t.ss.length B v).kv j = L.kv j := by simp [Lay.addS, hne]
      have e2 : (L.addS t.ss.length B v).sc j = L.sc j := by simp [Lay.addS, hne]
      refine ⟨by rw [e2]; exact p2 _ _ hJ.mine, ?_, fun k e => ?_, ?_⟩
      · have : scC (L.addS t.ss.length B v) j y = scC L j y := by unfold scC; rw [e1]; rfl
        rw [this, e2]; exact hJ.blk
      · rw [e1] at e; exact p2 _ _ (hJ.lown k e)
      · rw [e1]; exact hJ.row
  · refine ⟨fun i x j e e' => ?_, fun i x j e e' => ?_, fun j y e => ?_, fun j y k e hk => ?_⟩
    · have := h.rng.sc i x j e e'; simp; omega
    · have := h.rng.op i x j e e'; simp; omega
    · rcases snoc_at e with ⟨rfl, rfl⟩ | ⟨hj, e⟩
      · exact hi
      · exact h.rng.own j y e
    · rcases snoc_at e with ⟨rfl, rfl⟩ | ⟨hj, e⟩
      · simp [Tr.sc0] at hk
      · exact h.rng.tks j y k e hk

/-- The tree has become another one: old blocks serve as they did, and the others are untouched. -/
def Gone (w : World) (own : Own) (tb : Nat) (t : Tr.T) (w' : World) : Prop :=
  ∃ own' L', Rep w' own' tb L' t ∧ (∀ k, k < w.heap.size → own' k = own k) ∧ Fr (fun k => own k ≠ none) w w'
end

theorem put_old {own : Own} {b : Option Nat} {r : Role} {n : Nat} (hb : ∀ k, b = some k → own k = some r ∨ n ≤ k) : ∀ k, k < n → put own b r k = own k := fun k hk => by
  unfold put
  split
  · rename_i e
    rcases hb k e with h | h
    · exact h.symm
    · omega
  · rfl
end Go.Proofs.Ytcegmdlmnibheaa
