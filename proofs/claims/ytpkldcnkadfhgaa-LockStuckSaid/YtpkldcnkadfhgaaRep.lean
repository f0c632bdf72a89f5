/- A table of locks in memory. -/
import Derived.Test.YtpkldcnkadfhgaaMem
namespace Go.Proofs.Ytpkldcnkadfhgaa
open Go.RowKit

/-- The cells of a lock, of a table. -/
def lG (l : Lk.L) (hb : Nat) (wv : Value) : Nat → Value := fun o => if o = 0 then .int .i64 l.tot else if o = 1 then .int .i64 l.free else if o = 2 then .map (some hb) else wv
def tG (lv : Value) (m : Option Nat) : Nat → Value := fun o => if o = 0 then lv else .map m
def ptrs (ls : List Nat) : List Value := ls.map fun b => .pointer (some ⟨b, 0, none⟩)
/-- Which block serves what: the table (0), its list (1), its map (2), the i-th lock (3), its map (4), its list (5). -/
abbrev Blocks := Nat × Nat → Option Nat
def Fp (bl : Blocks) : Nat → Prop := fun k => ∃ r, bl r = some k

structure Lock (W : World) (lb hb : Nat) (wv : Value) (l : Lk.L) : Prop where
  blk : Blk W lb 4 (lG l hb wv)
  map : MapIs W hb l.held
  line : Line W wv l.wait

structure Rep (W : World) (bl : Blocks) (tb : Nat) (lv : Value) (wv : Nat → Value) (ls : List Nat) (t : Lk.T) : Prop where
  inj : ∀ r r' k, bl r = some k → bl r' = some k → r = r'
  lt : ∀ r k, bl r = some k → k < W.heap.size
  hT : bl (0, 0) = some tb
  hV : lv.ownBlock = bl (1, 0)
  blk : Blk W tb 2 (tG lv (bl (2, 0)))
  row : W.ownsRow 0 78 1 lv t.ls.length (ptrs ls)
  len : ls.length = t.ls.length
  waits : ∀ m, bl (2, 0) = some m → MapIs W m t.waits
  waits0 : bl (2, 0) = none → t.waits = []
  lock : ∀ i l, t.ls[i]? = some l → ∃ lb hb, bl (3, i) = some lb ∧ ls[i]? = some lb ∧ bl (4, i) = some hb ∧ (wv i).ownBlock = bl (5, i) ∧ Lock W lb hb (wv i) l

theorem owns_fr {W W' : World} {b n sz : Nat} {t : TypeId} {v : Value} {xs : List Value} {S : Nat → Prop} (h : W.ownsRow b t sz v n xs) (hf : Fr S W W') (hL : ∀ k, v.ownBlock = some k → ¬ S k) : W'.ownsRow b t sz v n xs := by
  refine ⟨h.1, ?_⟩
  rcases h.2 with h0 | ⟨g, cap, cur, e, hbg, hg, r⟩
  · exact .inl h0
  · exact .inr ⟨g, cap, cur, e, hbg, (hf.block g (Array.getElem?_eq_some_iff.1 hg).1 (hL g (by rw [e]; rfl))).trans hg, r⟩

section
variable {W W' : World} {bl : Blocks} {tb : Nat} {lv : Value} {wv : Nat → Value} {ls : List Nat} {t : Lk.T}
theorem Lock.fr {lb hb : Nat} {v : Value} {l : Lk.L} (h : Lock W lb hb v l) {S : Nat → Prop} (hf : Fr S W W') (h1 : ¬ S lb) (h2 : ¬ S hb) (h3 : ∀ k, v.ownBlock = some k → ¬ S k) : Lock W' lb hb v l :=
  ⟨h.blk.fr hf h1, h.map.fr hf h2, h.line.fr hf h3⟩
theorem Rep.fr (h : Rep W bl tb lv wv ls t) {S : Nat → Prop} (hf : Fr S W W') (hn : ∀ r k, bl r = some k → ¬ S k) : Rep W' bl tb lv wv ls t where
  inj := h.inj
  lt r k e := Nat.lt_of_lt_of_le (h.lt r k e) hf.size
  hT := h.hT
  hV := h.hV
  blk := h.blk.fr hf (hn _ _ h.hT)
  row := owns_fr h.row hf fun k e => hn (1, 0) k (by rw [← h.hV]; exact e)
  len := h.len
  waits m e := (h.waits m e).fr hf (hn _ _ e)
  waits0 := h.waits0
  lock i l e := by
    obtain ⟨lb, hb, h1, h2, h3, h4, h5⟩ := h.lock i l e
    exact ⟨lb, hb, h1, h2, h3, h4, h5.fr hf (hn _ _ h1) (hn _ _ h3) fun k e => hn (5, i) k (by rw [← h4]; exact e)⟩
theorem Rep.below (h : Rep W bl tb lv wv ls t) (hb : Below W.heap.size W W') : Rep W' bl tb lv wv ls t := h.fr (S := none_) (Fr.of_below hb) (fun _ _ _ hn => hn)

/-- The blocks of the i-th lock. -/
def Lo (bl : Blocks) (i : Nat) : Nat → Prop := fun k => bl (3, i) = some k ∨ bl (4, i) = some k ∨ bl (5, i) = some k
theorem Rep.off (h : Rep W bl tb lv wv ls t) {i : Nat} {r : Nat × Nat} {k : Nat} (e : bl r = some k) (h3 : r ≠ (3, i)) (h4 : r ≠ (4, i)) (h5 : r ≠ (5, i)) : ¬ Lo bl i k := by
  rintro (e' | e' | e')
  · exact h3 (h.inj _ _ _ e e')
  · exact h4 (h.inj _ _ _ e e')
  · exact h5 (h.inj _ _ _ e e')

def put5 (bl : Blocks) (r0 : Nat × Nat) (x : Option Nat) : Blocks := fun r => if r = r0 then x else bl r
theorem put5_same (bl : Blocks) (r0 : Nat × Nat) (x : Option Nat) : put5 bl r0 x r0 = x := by simp [put5]
theorem put5_other (bl : Blocks) {r0 r : Nat × Nat} (x : Option Nat) (h : r ≠ r0) : put5 bl r0 x r = bl r := by simp [put5, h]
theorem put5_inj (h : ∀ r r' k, bl r = some k → bl r' = some k → r = r') {r0 : Nat × Nat} {x : Option Nat} (hx : ∀ k, x = some k → ∀ r, r ≠ r0 → bl r ≠ some k) :
    ∀ r r' k, put5 bl r0 x r = some k → put5 bl r0 x r' = some k → r = r' := by
  intro r r' k e e'
  by_cases h1 : r = r0
  · by_cases h2 : r' = r0
    · rw [h1, h2]
    · subst h1; rw [put5_same] at e; rw [put5_other _ _ h2] at e'; exact absurd e' (hx k e r' h2)
  · by_cases h2 : r' = r0
    · subst h2; rw [put5_same] at e'; rw [put5_other _ _ h1] at e; exact absurd e (hx k e' r h1)
    · rw [put5_other _ _ h1] at e; rw [put5_other _ _ h2] at e'; exact h r r' k e e'

/-- A lock has turned. -/
theorem Rep.turn (h : Rep W bl tb lv wv ls t) {i : Nat} {l l' : Lk.L} {lb hb : Nat} {v : Value} (hl : t.ls[i]? = some l) (e3 : bl (3, i) = some lb) (e4 : bl (4, i) = some hb) (hf : Fr (Lo bl i) W W') (hv : v.ownBlock = bl (5, i) ∨ ∃ g, v.ownBlock = some g ∧ W.heap.size ≤ g)
    (hL : Lock W' lb hb v l') : Rep W' (put5 bl (5, i) v.ownBlock) tb lv (fun j => if j = i then v else wv j) ls { t with ls := t.ls.set i l' } where
  inj := put5_inj h.inj fun k e r hr e' => by
    rcases hv with hv | ⟨g, hv, hg⟩
    · rw [hv] at e; exact hr (h.inj _ _ _ e' e)
    · rw [hv] at e; cases e; have := h.lt _ _ e'; omega
  lt r k e := by
    by_cases hr : r = (5, i)
    · subst hr; rw [put5_same] at e; exact hL.line.block k e
    · rw [put5_other _ _ hr] at e; exact Nat.lt_of_lt_of_le (h.lt r k e) hf.size
  hT := by rw [put5_other _ _ (by simp)]; exact h.hT
  hV := by rw [put5_other _ _ (by simp)]; exact h.hV
  blk := by rw [put5_other _ _ (by simp)]; exact h.blk.fr hf (h.off h.hT (by simp) (by simp) (by simp))
  row := by
    have := owns_fr h.row hf fun k e => h.off (r := (1, 0)) (by rw [← h.hV]; exact e) (by simp) (by simp) (by simp)
    simpa using this
  len := by simpa using h.len
  waits m e := by rw [put5_other _ _ (by simp)] at e; exact (h.waits m e).fr hf (h.off e (by simp) (by simp) (by simp))
  waits0 e := by rw [put5_other _ _ (by simp)] at e; exact h.waits0 e
  lock j x e := by
    by_cases hj : j = i
    · subst hj
      obtain ⟨lb', hb', h1, h2, h3, h4, h5⟩ := h.lock j l hl
      rw [e3] at h1; cases h1
      rw [e4] at h3; cases h3
      have hlt : j < t.ls.length := (List.getElem?_eq_some_iff.1 hl).1
      have ex : l' = x := by simpa [List.getElem?_set, hlt] using e
      subst ex
      refine ⟨lb, hb, by rw [put5_other _ _ (by simp)]; exact e3, h2, by rw [put5_other _ _ (by simp)]; exact e4, by simp [put5_same], by simpa using hL⟩
    · have e' : t.ls[j]? = some x := by simpa [List.getElem?_set, Ne.symm hj] using e
      obtain ⟨lb', hb', h1, h2, h3, h4, h5⟩ := h.lock j x e'
      have n1 : ((3, j) : Nat × Nat) ≠ (5, i) := by simp
      have n2 : ((4, j) : Nat × Nat) ≠ (5, i) := by simp
      have n3 : ((5, j) : Nat × Nat) ≠ (5, i) := by simpa using hj
      refine ⟨lb', hb', by rw [put5_other _ _ n1]; exact h1, h2, by rw [put5_other _ _ n2]; exact h3, by rw [put5_other _ _ n3]; simpa [hj] using h4, ?_⟩
      simp only [hj, if_false]
      exact h5.fr hf (h.off h1 (by simpa using hj) (by simp) (by simp)) (h.off h3 (by simp) (by simpa using hj) (by simp)) fun k e => h.off (r := (5, j)) (by rw [← h4]; exact e) (by simp) (by simp) n3

/-- The map of those that wait has turned. -/
theorem Rep.turnWaits (h : Rep W bl tb lv wv ls t) {m : Nat} (hm : bl (2, 0) = some m) (ht : W.mapTurned W' m) {k : Lk.KV} (hk : MapIs W' m k) : Rep W' bl tb lv wv ls { t with waits := k } := by
  have hf : Fr (fun x => x = m) W W' := (Fr.refl _ _).map (.inl rfl) ht
  have off : ∀ r x, bl r = some x → r ≠ (2, 0) → ¬ x = m := fun r x e hr e' => hr (h.inj _ _ _ (e' ▸ e) hm)
  refine ⟨h.inj, fun r x e => Nat.lt_of_lt_of_le (h.lt r x e) hf.size, h.hT, h.hV, h.blk.fr hf (off _ _ h.hT (by simp)), owns_fr h.row hf fun x e => off (1, 0) x (by rw [← h.hV]; exact e) (by simp), h.len, ?_, ?_, fun i l e => ?_⟩
  · intro m' e; rw [hm] at e; cases e; exact hk
  · intro e; rw [hm] at e; cases e
  · obtain ⟨lb, hb, h1, h2, h3, h4, h5⟩ := h.lock i l e
    exact ⟨lb, hb, h1, h2, h3, h4, h5.fr hf (off _ _ h1 (by simp)) (off _ _ h3 (by simp)) fun x e => off (5, i) x (by rw [← h4]; exact e) (by simp)⟩

/-- The map of those that wait is made. -/
theorem Rep.mkWaits (h : Rep W bl tb lv wv ls t) (hm : bl (2, 0) = none) :
    Rep ((W.alloc (.map #[] 0)).setCell ⟨tb, 1, none⟩ (.map (some W.heap.size))) (put5 bl (2, 0) (some W.heap.size)) tb lv wv ls t := by
  have hlt := h.lt _ _ h.hT
  have hf : Fr (fun x => x = tb) W ((W.alloc (.map #[] 0)).setCell ⟨tb, 1, none⟩ (.map (some W.heap.size))) := Fr.set (S := fun x => x = tb) ((Fr.refl _ _).alloc _) (.inl rfl) _ _
  have off : ∀ r x, bl r = some x → r ≠ (0, 0) → ¬ x = tb := fun r x e hr e' => hr (h.inj _ _ _ (e' ▸ e) h.hT)
  have w0 := h.waits0 hm
  refine ⟨put5_inj h.inj fun k e r _ e' => by cases e; have := h.lt _ _ e'; omega, fun r k e => ?_, by rw [put5_other _ _ (by simp)]; exact h.hT, by rw [put5_other _ _ (by simp)]; exact h.hV, ?_, owns_fr h.row hf fun x e => off (1, 0) x (by rw [← h.hV]; exact e) (by simp), h.len, fun m e => ?_, fun e => (by rw [put5_same] at e; cases e), fun i l e => ?_⟩
  · by_cases hr : r = (2, 0)
    · subst hr; rw [put5_same] at e; cases e; simp [World.setCell]
    · rw [put5_other _ _ hr] at e
      exact Nat.lt_of_lt_of_le (h.lt r k e) hf.size
  · rw [put5_same]
    refine ((h.blk.alloc (.map #[] 0)).set (by omega : 1 < 2) (.map (some W.heap.size))).ext fun o ho => ?_
    have : o = 0 ∨ o = 1 := by omega
    rcases this with rfl | rfl
    · simp [upd, tG]
    · simp [upd, tG]
  · rw [put5_same] at e
    cases e
    rw [w0]
    exact (MapIs.new W).set_other (by omega) _
  · obtain ⟨lb, hb, h1, h2, h3, h4, h5⟩ := h.lock i l e
    exact ⟨lb, hb, by rw [put5_other _ _ (by simp)]; exact h1, h2, by rw [put5_other _ _ (by simp)]; exact h3, by rw [put5_other _ _ (by simp)]; exact h4, h5.fr hf (off _ _ h1 (by simp)) (off _ _ h3 (by simp)) fun x e => off (5, i) x (by rw [← h4]; exact e) (by simp)⟩
end

theorem Rep.mkWaits' {W : World} {bl : Blocks} {tb : Nat} {lv : Value} {wv : Nat → Value} {ls : List Nat} {t : Lk.T} (h : Rep W bl tb lv wv ls t) (hm : bl (2, 0) = none) :
    Rep ((W.setCell ⟨tb, 1, none⟩ (.map (some W.heap.size))).alloc (.map #[] 0)) (put5 bl (2, 0) (some W.heap.size)) tb lv wv ls t := by
  have h1 := h.mkWaits hm
  rwa [World.setCell_alloc_past _ _ _ _ (h.lt _ _ h.hT)] at h1
theorem put5_keep {bl : Blocks} {r0 : Nat × Nat} {x : Option Nat} {n : Nat} (hv : x = bl r0 ∨ ∃ g, x = some g ∧ n ≤ g) : ∀ r k, put5 bl r0 x r = some k → bl r = some k ∨ n ≤ k := by
  intro r k e
  by_cases hr : r = r0
  · subst hr
    rw [put5_same] at e
    rcases hv with hv | ⟨g, hv, hg⟩
    · exact .inl (hv ▸ e)
    · rw [hv] at e; cases e; exact .inr hg
  · rw [put5_other _ _ hr] at e; exact .inl e

/-- A table, wherever its parts lie. -/
structure Tab (W : World) (bl : Blocks) (tb : Nat) (t : Lk.T) : Prop where
  rep : ∃ lv wv ls, Rep W bl tb lv wv ls t
  ok : Lk.TOk t
/-- A call has made another state of the table. -/
def Gone (w : World) (bl : Blocks) (tb : Nat) (t : Lk.T) (w' : World) : Prop := ∃ bl', Tab w' bl' tb t ∧ (∀ r k, bl' r = some k → bl r = some k ∨ w.heap.size ≤ k) ∧ Fr (Fp bl) w w'
theorem Tab.fr {W W' : World} {bl : Blocks} {tb : Nat} {t : Lk.T} (h : Tab W bl tb t) {S : Nat → Prop} (hf : Fr S W W') (hn : ∀ r k, bl r = some k → ¬ S k) : Tab W' bl tb t := by
  obtain ⟨⟨lv, wv, ls, h⟩, h2⟩ := h
  exact ⟨⟨lv, wv, ls, h.fr hf hn⟩, h2⟩
theorem Tab.below {W W' : World} {bl : Blocks} {tb : Nat} {t : Lk.T} (h : Tab W bl tb t) (hb : Below W.heap.size W W') : Tab W' bl tb t :=
  h.fr (S := none_) (Fr.of_below hb) (fun _ _ _ hn => hn)
theorem Tab.lt {W : World} {bl : Blocks} {tb : Nat} {t : Lk.T} (h : Tab W bl tb t) {r : Nat × Nat} {k : Nat} (e : bl r = some k) : k < W.heap.size := by
  obtain ⟨⟨lv, wv, ls, h⟩, h2⟩ := h
  exact h.lt r k e
theorem Tab.hT {W : World} {bl : Blocks} {tb : Nat} {t : Lk.T} (h : Tab W bl tb t) : bl (0, 0) = some tb := by
  obtain ⟨⟨lv, wv, ls, h⟩, h2⟩ := h
  exact h.hT
theorem Tab.tlt {W : World} {bl : Blocks} {tb : Nat} {t : Lk.T} (h : Tab W bl tb t) : tb < W.heap.size := h.lt h.hT
end Go.Proofs.Ytpkldcnkadfhgaa
