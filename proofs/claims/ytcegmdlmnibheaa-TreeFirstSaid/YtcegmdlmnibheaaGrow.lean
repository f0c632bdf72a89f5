/- What an append and a store behind it make of a tree. -/
import Derived.Test.YtcegmdlmnibheaaFin2
namespace Go.Proofs.Ytcegmdlmnibheaa
set_option linter.unusedVariables false
set_option linter.unusedSimpArgs false
open Go.RowKit
section
variable {w : World} {own : Own} {tb : Nat} {L : Lay} {t : Tr.T}
theorem Rep.tb_lt (h : Rep w own tb L t) : tb < w.heap.size := h.lt _ _ h.hT

theorem add_rep (h : Rep w own tb L t) (s : Option Nat) (hs : ∀ j, s = some j → j < t.ss.length) {o : Obj} {w5 : World} {v : Value}
    (hG : ((w.alloc (.cells #[.int .i64 ((t.ts.length : Int) + 1), .bool false, .int .i64 0, .string ⟨#[]⟩, scP L s, .slice none 0 0, .bool false, .int .i64 0, .string ⟨#[]⟩] 110)).alloc o).grownBy w5 L.tv.ownBlock)
    (hrow : w5.ownsRow 0 101 1 v (t.ts.length + 1) ((List.range t.ts.length).map (tkP L) ++ [ptr w.heap.size])) (hat : v.ownBlock = L.tv.ownBlock ∨ v.ownBlock = some (w.heap.size + 1 + 1)) :
    Rep (w5.setCell ⟨tb, 0, none⟩ v) (put (put own (some w.heap.size) (.tk t.ts.length)) v.ownBlock .tl) tb (L.addT t.ts.length w.heap.size v) (Tr.addT t s) ∧
    Step w own (w5.setCell ⟨tb, 0, none⟩ v) (put (put own (some w.heap.size) (.tk t.ts.length)) v.ownBlock .tl) := by
  have htb := h.tb_lt
  have hF : Fr (fun k => k = tb ∨ L.tv.ownBlock = some k) w (w5.setCell ⟨tb, 0, none⟩ v) :=
    Fr.set (Fr.grown ((((Fr.refl (fun k => k = tb ∨ L.tv.ownBlock = some k) w).alloc _).alloc o)) hG (fun x e => .inl (.inr e)) (owns_cells ((h.trow.alloc _).alloc o))) (.inl (.inl rfl)) 0 v
  have hnr : some w.heap.size ≠ L.tv.ownBlock := fun e => by have := h.lt _ _ (h.tlo _ e.symm); omega
  have htr : some tb ≠ L.tv.ownBlock := fun e => by have := h.tlo _ e.symm; rw [h.hT] at this; simp at this
  have hB := ((((Blk.new w #[.int .i64 ((t.ts.length : Int) + 1), .bool false, .int .i64 0, .string ⟨#[]⟩, scP L s, .slice none 0 0, .bool false, .int .i64 0, .string ⟨#[]⟩] 110).alloc o).grown hG hnr).set_other (b' := tb) (o := 0) (by omega) v)
  have hT := (((h.blk.alloc _).alloc o).grown hG htr).set (o := 0) (by simp) v
  have hv : v.ownBlock = L.tv.ownBlock ∨ ∃ g, v.ownBlock = some g ∧ w.heap.size ≤ g ∧ g ≠ w.heap.size := by
    rcases hat with e | e
    · exact .inl e
    · exact .inr ⟨_, e, by omega, by omega⟩
  have hvt : ∀ k, v.ownBlock = some k → k ≠ tb := fun k e e' => by
    rcases hat with h1 | h1
    · exact htr (by rw [← e', ← h1, e])
    · rw [h1] at e; cases e; omega
  have hR := h.addT (W' := w5.setCell ⟨tb, 0, none⟩ v) (s := s) hF (Nat.le_refl _) (by
      have e1 : tkC (L.addT t.ts.length w.heap.size v) t.ts.length (Tr.tk0 s) = [.int .i64 ((t.ts.length : Int) + 1), .bool false, .int .i64 0, .string ⟨#[]⟩, scP L s, .slice none 0 0, .bool false, .int .i64 0, .string ⟨#[]⟩] := by
        simp only [tkC, Lay.scP_addT]; simp [Tr.tk0, Tr.f0, Lay.addT]
      rw [e1]; exact hB) hT hv (owns_fr hrow (Fr.set (Fr.refl (fun k => k = tb) w5) (.inl rfl) 0 v) fun k e => hvt k e) hs
  refine ⟨hR, ⟨fun k hk => ?_, hF.widen fun k hk _ => ?_⟩⟩
  · unfold put
    by_cases e : v.ownBlock = some k
    · rw [if_pos e]
      rcases hat with h1 | h1
      · rw [h1] at e; exact (h.tlo k e).symm
      · rw [h1] at e; cases e; omega
    · rw [if_neg e, if_neg (by simp; omega)]
  · rcases hk with rfl | hk
    · rw [h.hT]; simp
    · rw [h.tlo k hk]; simp

theorem hook_rep (h : Rep w own tb L t) {j i : Nat} {y : Tr.Sc} (hy : t.ss[j]? = some y) (hi : i < t.ts.length) {o : Obj} {w5 : World} {v : Value} (hG : (w.alloc o).grownBy w5 (L.kv j).ownBlock)
    (hrow : w5.ownsRow 0 101 1 v (y.tks.length + 1) (y.tks.map (tkP L) ++ [tkP L i])) (hat : v.ownBlock = (L.kv j).ownBlock ∨ v.ownBlock = some (w.heap.size + 1)) :
    Rep (w5.setCell ⟨L.sc j, 6, none⟩ v) (put own v.ownBlock (.kl j)) tb (L.setKv j v) (Tr.setS t j { y with tks := y.tks ++ [i] }) ∧ Step w own (w5.setCell ⟨L.sc j, 6, none⟩ v) (put own v.ownBlock (.kl j)) := by
  have hK := h.sc j y hy
  have hlt := hK.blk.lt
  have hF : Fr (fun k => k = L.sc j ∨ (L.kv j).ownBlock = some k) w (w5.setCell ⟨L.sc j, 6, none⟩ v) :=
    Fr.set (Fr.grown (((Fr.refl (fun k => k = L.sc j ∨ (L.kv j).ownBlock = some k) w).alloc o)) hG (fun x e => .inl (.inr e)) (owns_cells (hK.row.alloc o))) (.inl (.inl rfl)) 6 v
  have hnr : some (L.sc j) ≠ (L.kv j).ownBlock := fun e => by have := hK.lown _ e.symm; rw [hK.mine] at this; simp at this
  have hB := ((hK.blk.alloc o).grown hG hnr).set (o := 6) (by simp [scC]) v
  have hv : ∀ k, v.ownBlock = some k → own k = some (.kl j) ∨ w.heap.size ≤ k := fun k e => by
    rcases hat with h1 | h1
    · exact .inl (hK.lown k (h1 ▸ e))
    · rw [h1] at e; cases e; right; omega
  have hvt : ∀ k, v.ownBlock = some k → k ≠ L.sc j := fun k e e' => by
    rcases hv k e with h1 | h1
    · rw [e', hK.mine] at h1; simp at h1
    · omega
  refine ⟨h.turnK hy hF (by
      have e1 : scC (L.setKv j v) j { y with tks := y.tks ++ [i] } = (scC L j y).set 6 v := by simp [scC, Lay.setKv]
      rw [e1]; exact hB) (by
        rcases hat with h1 | h1
        · exact .inr (.inl h1)
        · exact .inr (.inr ⟨_, h1, by omega⟩)) ?_ rfl ?_, ⟨fun k hk => put_old hv k hk, hF.widen fun k hk _ => ?_⟩⟩
  · have := owns_fr hrow (Fr.set (Fr.refl (fun k => k = L.sc j) w5) (.inl rfl) 6 v) fun k e => hvt k e
    simpa using this
  · intro k hk
    rcases List.mem_append.1 hk with hk | hk
    · exact h.rng.tks j y k hy hk
    · simp at hk; omega
  · rcases hk with rfl | hk
    · rw [hK.mine]; simp
    · rw [hK.lown k hk]; simp

theorem link_rep (h : Rep w own tb L t) {i : Nat} {x : Tr.Tk} (hx : t.ts[i]? = some x) {s : Option Nat} (hs : ∀ j, s = some j → j < t.ss.length) {o : Obj} {w5 : World} {v : Value} (hG : (w.alloc o).grownBy w5 (L.ov i).ownBlock)
    (hrow : w5.ownsRow 0 104 1 v (x.op.length + 1) (x.op.map (scP L) ++ [scP L s])) (hat : v.ownBlock = (L.ov i).ownBlock ∨ v.ownBlock = some (w.heap.size + 1)) :
    Rep (w5.setCell ⟨L.tk i, 5, none⟩ v) (put own v.ownBlock (.ol i)) tb (L.setOv i v) (Tr.setT t i { x with op := x.op ++ [s] }) ∧ Step w own (w5.setCell ⟨L.tk i, 5, none⟩ v) (put own v.ownBlock (.ol i)) := by
  have hK := h.tk i x hx
  have hlt := hK.blk.lt
  have hF : Fr (fun k => k = L.tk i ∨ (L.ov i).ownBlock = some k) w (w5.setCell ⟨L.tk i, 5, none⟩ v) :=
    Fr.set (Fr.grown (((Fr.refl (fun k => k = L.tk i ∨ (L.ov i).ownBlock = some k) w).alloc o)) hG (fun x e => .inl (.inr e)) (owns_cells (hK.row.alloc o))) (.inl (.inl rfl)) 5 v
  have hnr : some (L.tk i) ≠ (L.ov i).ownBlock := fun e => by have := hK.lown _ e.symm; rw [hK.mine] at this; simp at this
  have hB := ((hK.blk.alloc o).grown hG hnr).set (o := 5) (by simp [tkC]) v
  have hv : ∀ k, v.ownBlock = some k → own k = some (.ol i) ∨ w.heap.size ≤ k := fun k e => by
    rcases hat with h1 | h1
    · exact .inl (hK.lown k (h1 ▸ e))
    · rw [h1] at e; cases e; right; omega
  have hvt : ∀ k, v.ownBlock = some k → k ≠ L.tk i := fun k e e' => by
    rcases hv k e with h1 | h1
    · rw [e', hK.mine] at h1; simp at h1
    · omega
  refine ⟨h.turnO hx hF (by
      have e1 : tkC (L.setOv i v) i { x with op := x.op ++ [s] } = (tkC L i x).set 5 v := by simp only [tkC, Lay.scP_ov]; simp [Lay.setOv]
      rw [e1]; exact hB) (by
        rcases hat with h1 | h1
        · exact .inr (.inl h1)
        · exact .inr (.inr ⟨_, h1, by omega⟩)) ?_ rfl ?_, ⟨fun k hk => put_old hv k hk, hF.widen fun k hk _ => ?_⟩⟩
  · have := owns_fr hrow (Fr.set (Fr.refl (fun k => k = L.tk i) w5) (.inl rfl) 5 v) fun k e => hvt k e
    simpa using this
  · intro j hj
    rcases List.mem_append.1 hj with hj | hj
    · exact h.rng.op i x j hx hj
    · simp at hj; exact hs j hj.symm
  · rcases hk with rfl | hk
    · rw [hK.mine]; simp
    · rw [hK.lown k hk]; simp

theorem scope_rep (h : Rep w own tb L t) {i : Nat} (hi : i < t.ts.length) (sup : Bool) {o : Obj} {w5 : World} {v : Value}
    (hG : ((w.alloc (.cells #[.int .i64 ((t.ss.length : Int) + 1), .bool false, .int .i64 0, .string ⟨#[]⟩, tkP L i, .bool sup, .slice none 0 0] 108)).alloc o).grownBy w5 L.sv.ownBlock)
    (hrow : w5.ownsRow 0 104 1 v (t.ss.length + 1) ((List.range t.ss.length).map (fun j => scP L (some j)) ++ [ptr w.heap.size])) (hat : v.ownBlock = L.sv.ownBlock ∨ v.ownBlock = some (w.heap.size + 1 + 1)) :
    Rep (w5.setCell ⟨tb, 1, none⟩ v) (put (put own (some w.heap.size) (.sc t.ss.length)) v.ownBlock .sl) tb (L.addS t.ss.length w.heap.size v) { t with ss := t.ss ++ [Tr.sc0 i sup] } ∧
    Step w own (w5.setCell ⟨tb, 1, none⟩ v) (put (put own (some w.heap.size) (.sc t.ss.length)) v.ownBlock .sl) := by
  have htb := h.tb_lt
  have hF : Fr (fun k => k = tb ∨ L.sv.ownBlock = some k) w (w5.setCell ⟨tb, 1, none⟩ v) :=
    Fr.set (Fr.grown ((((Fr.refl (fun k => k = tb ∨ L.sv.ownBlock = some k) w).alloc _).alloc o)) hG (fun x e => .inl (.inr e)) (owns_cells ((h.srow.alloc _).alloc o))) (.inl (.inl rfl)) 1 v
  have hnr : some w.heap.size ≠ L.sv.ownBlock := fun e => by have := h.lt _ _ (h.slo _ e.symm); omega
  have htr : some tb ≠ L.sv.ownBlock := fun e => by have := h.slo _ e.symm; rw [h.hT] at this; simp at this
  have hB := ((((Blk.new w #[.int .i64 ((t.ss.length : Int) + 1), .bool false, .int .i64 0, .string ⟨#[]⟩, tkP L i, .bool sup, .slice none 0 0] 108).alloc o).grown hG hnr).set_other (b' := tb) (o := 1) (by omega) v)
  have hT := (((h.blk.alloc _).alloc o).grown hG htr).set (o := 1) (by simp) v
  have hv : v.ownBlock = L.sv.ownBlock ∨ ∃ g, v.ownBlock = some g ∧ w.heap.size ≤ g ∧ g ≠ w.heap.size := by
    rcases hat with e | e
    · exact .inl e
    · exact .inr ⟨_, e, by omega, by omega⟩
  have hvt : ∀ k, v.ownBlock = some k → k ≠ tb := fun k e e' => by
    rcases hat with h1 | h1
    · exact htr (by rw [← e', ← h1, e])
    · rw [h1] at e; cases e; omega
  have hR := h.addS (W' := w5.setCell ⟨tb, 1, none⟩ v) (i := i) (sup := sup) hF (Nat.le_refl _) (by
      have e1 : scC (L.addS t.ss.length w.heap.size v) t.ss.length (Tr.sc0 i sup) = [.int .i64 ((t.ss.length : Int) + 1), .bool false, .int .i64 0, .string ⟨#[]⟩, tkP L i, .bool sup, .slice none 0 0] := by
        simp [scC, Tr.sc0, Tr.f0, Lay.addS]
      rw [e1]; exact hB) hT hv (owns_fr hrow (Fr.set (Fr.refl (fun k => k = tb) w5) (.inl rfl) 1 v) fun k e => hvt k e) hi
  refine ⟨hR, ⟨fun k hk => ?_, hF.widen fun k hk _ => ?_⟩⟩
  · unfold put
    by_cases e : v.ownBlock = some k
    · rw [if_pos e]
      rcases hat with h1 | h1
      · rw [h1] at e; exact (h.slo k e).symm
      · rw [h1] at e; cases e; omega
    · rw [if_neg e, if_neg (by simp; omega)]
  · rcases hk with rfl | hk
    · rw [h.hT]; simp
    · rw [h.slo k hk]; simp
theorem Step.gone {a b : World} {o p : Own} {M : Lay} {u : Tr.T} (h : Step a o b p) (hR : Rep b p tb M u) : Gone a o tb u b := ⟨p, M, hR, h.keep, h.fr⟩
end
end Go.Proofs.Ytcegmdlmnibheaa
