/- A tree in memory. -/
import Derived.Test.YtcegmdlmnibheaaSpec
namespace Go.Proofs.Ytcegmdlmnibheaa
set_option linter.unusedVariables false
set_option linter.unusedSimpArgs false
open Go.RowKit

/-- What a block serves as. -/
inductive Role where
  | tree
  | tl
  | sl
  | tk (i : Nat)
  | sc (j : Nat)
  | ol (i : Nat)
  | kl (j : Nat)
abbrev Own := Nat → Option Role
def put (own : Own) (b : Option Nat) (r : Role) : Own := fun k => if b = some k then some r else own k

/-- Where the parts lie. -/
structure Lay where
  tv : Value
  sv : Value
  tk : Nat → Nat
  sc : Nat → Nat
  ov : Nat → Value
  kv : Nat → Value

abbrev ptr (b : Nat) : Value := .pointer (some ⟨b, 0, none⟩)
def scP (L : Lay) : Option Nat → Value
  | none => .pointer none
  | some j => ptr (L.sc j)
abbrev tkP (L : Lay) (i : Nat) : Value := ptr (L.tk i)
def tkC (L : Lay) (i : Nat) (x : Tr.Tk) : List Value := [.int .i64 ((i : Int) + 1), .bool x.done, .int .i64 x.flt.k, .string x.flt.s, scP L x.sc, L.ov i, .bool x.leav, .int .i64 x.left.k, .string x.left.s]
def scC (L : Lay) (j : Nat) (y : Tr.Sc) : List Value := [.int .i64 ((j : Int) + 1), .bool y.done, .int .i64 y.flt.k, .string y.flt.s, tkP L y.own, .bool y.sup, L.kv j]

/-- A task, and its list of open links. -/
structure TkAt (W : World) (own : Own) (L : Lay) (i : Nat) (x : Tr.Tk) : Prop where
  mine : own (L.tk i) = some (.tk i)
  blk : Blk W (L.tk i) (tkC L i x)
  lown : ∀ k, (L.ov i).ownBlock = some k → own k = some (.ol i)
  row : W.ownsRow 0 104 1 (L.ov i) x.op.length (x.op.map (scP L))
structure ScAt (W : World) (own : Own) (L : Lay) (j : Nat) (y : Tr.Sc) : Prop where
  mine : own (L.sc j) = some (.sc j)
  blk : Blk W (L.sc j) (scC L j y)
  lown : ∀ k, (L.kv j).ownBlock = some k → own k = some (.kl j)
  row : W.ownsRow 0 101 1 (L.kv j) y.tks.length (y.tks.map (tkP L))

/-- All that is named is there. -/
structure Rng (t : Tr.T) : Prop where
  sc : ∀ (i : Nat) (x : Tr.Tk) (j : Nat), t.ts[i]? = some x → x.sc = some j → j < t.ss.length
  op : ∀ (i : Nat) (x : Tr.Tk) (j : Nat), t.ts[i]? = some x → some j ∈ x.op → j < t.ss.length
  own : ∀ (j : Nat) (y : Tr.Sc), t.ss[j]? = some y → y.own < t.ts.length
  tks : ∀ (j : Nat) (y : Tr.Sc) (i : Nat), t.ss[j]? = some y → i ∈ y.tks → i < t.ts.length

structure Rep (W : World) (own : Own) (tb : Nat) (L : Lay) (t : Tr.T) : Prop where
  lt : ∀ k r, own k = some r → k < W.heap.size
  hT : own tb = some .tree
  blk : Blk W tb [L.tv, L.sv]
  tlo : ∀ k, L.tv.ownBlock = some k → own k = some .tl
  slo : ∀ k, L.sv.ownBlock = some k → own k = some .sl
  trow : W.ownsRow 0 101 1 L.tv t.ts.length ((List.range t.ts.length).map (tkP L))
  srow : W.ownsRow 0 104 1 L.sv t.ss.length ((List.range t.ss.length).map fun j => scP L (some j))
  tk : ∀ (i : Nat) (x : Tr.Tk), t.ts[i]? = some x → TkAt W own L i x
  sc : ∀ (j : Nat) (y : Tr.Sc), t.ss[j]? = some y → ScAt W own L j y
  rng : Rng t

section
variable {W W' : World} {own own' : Own} {tb : Nat} {L : Lay} {t : Tr.T}
theorem TkAt.fr {i : Nat} {x : Tr.Tk} (h : TkAt W own L i x) {S : Nat → Prop} (hF : Fr S W W') (h1 : ∀ k, S k → own k ≠ some (.tk i) ∧ own k ≠ some (.ol i)) : TkAt W' own L i x :=
  ⟨h.mine, h.blk.fr hF (fun hs => (h1 _ hs).1 h.mine), h.lown, owns_fr h.row hF fun k e hs => (h1 k hs).2 (h.lown k e)⟩
theorem ScAt.fr {j : Nat} {y : Tr.Sc} (h : ScAt W own L j y) {S : Nat → Prop} (hF : Fr S W W') (h1 : ∀ k, S k → own k ≠ some (.sc j) ∧ own k ≠ some (.kl j)) : ScAt W' own L j y :=
  ⟨h.mine, h.blk.fr hF (fun hs => (h1 _ hs).1 h.mine), h.lown, owns_fr h.row hF fun k e hs => (h1 k hs).2 (h.lown k e)⟩
/-- Own memory of others has grown. -/
theorem TkAt.own_ (h0 : ∀ k r, own k = some r → own' k = some r) {i : Nat} {x : Tr.Tk} (h : TkAt W own L i x) : TkAt W own' L i x :=
  ⟨h0 _ _ h.mine, h.blk, fun k e => h0 _ _ (h.lown k e), h.row⟩
theorem ScAt.own_ (h0 : ∀ k r, own k = some r → own' k = some r) {j : Nat} {y : Tr.Sc} (h : ScAt W own L j y) : ScAt W own' L j y :=
  ⟨h0 _ _ h.mine, h.blk, fun k e => h0 _ _ (h.lown k e), h.row⟩
theorem Rep.own_ (h : Rep W own tb L t) (h0 : ∀ k r, own k = some r → own' k = some r) (h1 : ∀ k r, own' k = some r → k < W.heap.size) : Rep W own' tb L t :=
  ⟨h1, h0 _ _ h.hT, h.blk, fun k e => h0 _ _ (h.tlo k e), fun k e => h0 _ _ (h.slo k e), h.trow, h.srow, fun i x e => (h.tk i x e).own_ h0, fun j y e => (h.sc j y e).own_ h0, h.rng⟩
theorem Rep.fr (h : Rep W own tb L t) {S : Nat → Prop} (hF : Fr S W W') (h1 : ∀ k, S k → own k = none) : Rep W' own tb L t where
  lt k r e := Nat.lt_of_lt_of_le (h.lt k r e) hF.size
  hT := h.hT
  blk := h.blk.fr hF fun hs => by have := h.hT; rw [h1 _ hs] at this; simp at this
  tlo := h.tlo
  slo := h.slo
  trow := owns_fr h.trow hF fun k e hs => by have := h.tlo k e; rw [h1 k hs] at this; simp at this
  srow := owns_fr h.srow hF fun k e hs => by have := h.slo k e; rw [h1 k hs] at this; simp at this
  tk i x e := (h.tk i x e).fr hF fun k hs => by rw [h1 k hs]; simp
  sc j y e := (h.sc j y e).fr hF fun k hs => by rw [h1 k hs]; simp
  rng := h.rng
theorem Rep.below (h : Rep W own tb L t) (hb : Below W.heap.size W W') : Rep W' own tb L t := h.fr (S := none_) (Fr.of_below hb) (fun _ h => h.elim)

theorem set_at {α : Type} {l : List α} {i j : Nat} {x y : α} (h : (l.set i x)[j]? = some y) : (j = i ∧ y = x) ∨ (j ≠ i ∧ l[j]? = some y) := by
  by_cases e : j = i
  · subst e
    have hl : j < l.length := by have := (List.getElem?_eq_some_iff.1 h).1; simpa using this
    simp [List.getElem?_set, hl] at h
    exact .inl ⟨rfl, h.symm⟩
  · rw [List.getElem?_set_ne (Ne.symm e)] at h
    exact .inr ⟨e, h⟩

/-- The cells of a task have turned. -/
theorem Rep.turnT (h : Rep W own tb L t) {i : Nat} {x x' : Tr.Tk} (hx : t.ts[i]? = some x) (hF : Fr (fun k => k = L.tk i) W W') (hB : Blk W' (L.tk i) (tkC L i x')) (hop : x'.op = x.op) (hsc : x'.sc = x.sc) : Rep W' own tb L (Tr.setT t i x') := by
  have ho := (h.tk i x hx).mine
  have key : ∀ k r, k = L.tk i → own k = some r → r = .tk i := fun k r e e' => by subst e; rw [ho] at e'; exact (Option.some.inj e').symm
  refine ⟨fun k r e => Nat.lt_of_lt_of_le (h.lt k r e) hF.size, h.hT, h.blk.fr hF fun e => by have := key _ _ e h.hT; simp at this, h.tlo, h.slo, ?_, ?_, fun j y e => ?_, fun j y e => ?_, ?_⟩
  · have := owns_fr h.trow hF fun k e e' => by have := key _ _ e' (h.tlo k e); simp at this
    simpa [Tr.setT] using this
  · exact owns_fr h.srow hF fun k e e' => by have := key _ _ e' (h.slo k e); simp at this
  · rcases set_at e with ⟨rfl, rfl⟩ | ⟨hj, e⟩
    · have hK := h.tk j x hx
      refine ⟨ho, hB, hK.lown, ?_⟩
      rw [hop]
      exact owns_fr hK.row hF fun k e e' => by have := key _ _ e' (hK.lown k e); simp at this
    · refine (h.tk j y e).fr hF fun k hk => ⟨fun e' => ?_, fun e' => ?_⟩
      · have := key _ _ hk e'; simp at this; exact hj this
      · have := key _ _ hk e'; simp at this
  · exact (h.sc j y e).fr hF fun k hk => ⟨fun e' => by have := key _ _ hk e'; simp at this, fun e' => by have := key _ _ hk e'; simp at this⟩
  · refine ⟨fun k z j e e' => ?_, fun k z j e e' => ?_, fun j y e => by simpa [Tr.setT] using h.rng.own j y e, fun j y k e hk => by simpa [Tr.setT] using h.rng.tks j y k e hk⟩
    · rcases set_at e with ⟨rfl, rfl⟩ | ⟨hj, e⟩
      · exact h.rng.sc k x j hx (hsc ▸ e')
      · exact h.rng.sc k z j e e'
    · rcases set_at e with ⟨rfl, rfl⟩ | ⟨hj, e⟩
      · exact h.rng.op k x j hx (hop ▸ e')
      · exact h.rng.op k z j e e'
/-- The cells of a scope have turned. -/
theorem Rep.turnS (h : Rep W own tb L t) {j : Nat} {y y' : Tr.Sc} (hy : t.ss[j]? = some y) (hF : Fr (fun k => k = L.sc j) W W') (hB : Blk W' (L.sc j) (scC L j y')) (htk : y'.tks = y.tks) (hown : y'.own = y.own) : Rep W' own tb L (Tr.setS t j y') := by
  have ho := (h.sc j y hy).mine
  have key : ∀ k r, k = L.sc j → own k = some r → r = .sc j := fun k r e e' => by subst e; rw [ho] at e'; exact (Option.some.inj e').symm
  refine ⟨fun k r e => Nat.lt_of_lt_of_le (h.lt k r e) hF.size, h.hT, h.blk.fr hF fun e => by have := key _ _ e h.hT; simp at this, h.tlo, h.slo, ?_, ?_, fun i x e => ?_, fun i z e => ?_, ?_⟩
  · exact owns_fr h.trow hF fun k e e' => by have := key _ _ e' (h.tlo k e); simp at this
  · have := owns_fr h.srow hF fun k e e' => by have := key _ _ e' (h.slo k e); simp at this
    simpa [Tr.setS] using this
  · exact (h.tk i x e).fr hF fun k hk => ⟨fun e' => by have := key _ _ hk e'; simp at this, fun e' => by have := key _ _ hk e'; simp at this⟩
  · rcases set_at e with ⟨rfl, rfl⟩ | ⟨hj, e⟩
    · have hK := h.sc i y hy
      refine ⟨ho, hB, hK.lown, ?_⟩
      rw [htk]
      exact owns_fr hK.row hF fun k e e' => by have := key _ _ e' (hK.lown k e); simp at this
    · refine (h.sc i z e).fr hF fun k hk => ⟨fun e' => ?_, fun e' => ?_⟩
      · have := key _ _ hk e'; simp at this; exact hj this
      · have := key _ _ hk e'; simp at this
  · refine ⟨fun i x k e e' => by simpa [Tr.setS] using h.rng.sc i x k e e', fun i x k e e' => by simpa [Tr.setS] using h.rng.op i x k e e', fun i z e => ?_, fun i z k e e' => ?_⟩
    · rcases set_at e with ⟨rfl, rfl⟩ | ⟨hj, e⟩
      · rw [hown]; exact h.rng.own i y hy
      · exact h.rng.own i z e
    · rcases set_at e with ⟨rfl, rfl⟩ | ⟨hj, e⟩
      · exact h.rng.tks i y k hy (htk ▸ e')
      · exact h.rng.tks i z k e e'

def Lay.setOv (L : Lay) (i : Nat) (v : Value) : Lay := { L with ov := fun k => if k = i then v else L.ov k }
def Lay.setKv (L : Lay) (j : Nat) (v : Value) : Lay := { L with kv := fun k => if k = j then v else L.kv k }
theorem Lay.scP_ov (L : Lay) (i : Nat) (v : Value) : scP (L.setOv i v) = scP L := by funext s; cases s <;> rfl
theorem Lay.scP_kv (L : Lay) (i : Nat) (v : Value) : scP (L.setKv i v) = scP L := by funext s; cases s <;> rfl
theorem Lay.tkP_ov (L : Lay) (i : Nat) (v : Value) : tkP (L.setOv i v) = tkP L := rfl
theorem Lay.tkP_kv (L : Lay) (i : Nat) (v : Value) : tkP (L.setKv i v) = tkP L := rfl
theorem put_keep (own : Own) {b : Option Nat} {r : Role} {n : Nat} (hb : ∀ k, b = some k → own k = some r ∨ n ≤ k) (hlt : ∀ k r, own k = some r → k < n) : (∀ k s, own k = some s → put own b r k = some s) ∧ (∀ k, k < n → put own b r k = own k) := by
  have key : ∀ k, b = some k → k < n → own k = some r := fun k e hk => (hb k e).elim id fun h => by omega
  refine ⟨fun k s e => ?_, fun k hk => ?_⟩
  · unfold put
    split
    · rename_i h; rw [← e, key k h (hlt k s e)]
    · exact e
  · unfold put
    split
    · rename_i h; exact (key k h hk).symm
    · rfl

/-- The list of open links of a task has turned. -/
theorem Rep.turnO (h : Rep W own tb L t) {i : Nat} {x x' : Tr.Tk} {v : Value} (hx : t.ts[i]? = some x) (hF : Fr (fun k => k = L.tk i ∨ (L.ov i).ownBlock = some k) W W') (hB : Blk W' (L.tk i) (tkC (L.setOv i v) i x'))
    (hv : v.ownBlock = none ∨ v.ownBlock = (L.ov i).ownBlock ∨ ∃ g, v.ownBlock = some g ∧ W.heap.size ≤ g) (hrow : W'.ownsRow 0 104 1 v x'.op.length (x'.op.map (scP L))) (hsc : x'.sc = x.sc) (hop : ∀ j, some j ∈ x'.op → j < t.ss.length) :
    Rep W' (put own v.ownBlock (.ol i)) tb (L.setOv i v) (Tr.setT t i x') := by
  have hK := h.tk i x hx
  have hpk := put_keep own (b := v.ownBlock) (r := .ol i) (n := W.heap.size) (fun k e => by
    rcases hv with hv | hv | ⟨g, hv, hg⟩
    · rw [hv] at e; cases e
    · rw [hv] at e; exact .inl (hK.lown k e)
    · rw [hv] at e; cases e; exact .inr hg) h.lt
  have key : ∀ k r, (k = L.tk i ∨ (L.ov i).ownBlock = some k) → own k = some r → r = .tk i ∨ r = .ol i := fun k r e e' => by
    rcases e with e | e
    · subst e; rw [hK.mine] at e'; exact .inl (Option.some.inj e').symm
    · rw [hK.lown k e] at e'; exact .inr (Option.some.inj e').symm
  have el : (if i = i then v else L.ov i) = v := by simp
  refine ⟨fun k r e => ?_, hpk.1 _ _ h.hT, ?_, fun k e => hpk.1 _ _ (h.tlo k e), fun k e => hpk.1 _ _ (h.slo k e), ?_, ?_, fun j y e => ?_, fun j y e => ?_, ?_⟩
  · unfold put at e
    split at e
    · rename_i hb; exact (hrow.lt k hb).2
    · exact Nat.lt_of_lt_of_le (h.lt k r e) hF.size
  · exact h.blk.fr hF fun e => by rcases key _ _ e h.hT with h | h <;> simp at h
  · have := owns_fr h.trow hF fun k e e' => by rcases key _ _ e' (h.tlo k e) with h | h <;> simp at h
    rw [show (Tr.setT t i x').ts.length = t.ts.length by simp [Tr.setT], Lay.tkP_ov]; exact this
  · have := owns_fr h.srow hF fun k e e' => by rcases key _ _ e' (h.slo k e) with h | h <;> simp at h
    rw [Lay.scP_ov]; exact this
  · rcases set_at e with ⟨rfl, rfl⟩ | ⟨hj, e⟩
    · refine ⟨hpk.1 _ _ hK.mine, hB, fun k e => ?_, ?_⟩
      · unfold put; simp only [Lay.setOv, if_true] at e; rw [if_pos e]
      · rw [Lay.scP_ov]; simpa [Lay.setOv] using hrow
    · have hJ := (h.tk j y e).fr hF fun k hk => ⟨fun e' => by rcases key _ _ hk e' with h | h <;> simp at h; exact hj h, fun e' => by rcases key _ _ hk e' with h | h <;> simp at h; exact hj h⟩
      have e1 : (L.setOv i v).ov j = L.ov j := by simp [Lay.setOv, hj]
      refine ⟨hpk.1 _ _ hJ.mine, ?_, fun k e => ?_, ?_⟩
      · have : tkC (L.setOv i v) j y = tkC L j y := by unfold tkC; rw [e1, Lay.scP_ov]
        rw [this]; exact hJ.blk
      · rw [e1] at e; exact hpk.1 _ _ (hJ.lown k e)
      · rw [e1, Lay.scP_ov]; exact hJ.row
  · have hJ := (h.sc j y e).fr hF fun k hk => ⟨fun e' => by rcases key _ _ hk e' with h | h <;> simp at h, fun e' => by rcases key _ _ hk e' with h | h <;> simp at h⟩
    exact ⟨hpk.1 _ _ hJ.mine, hJ.blk, fun k e => hpk.1 _ _ (hJ.lown k e), hJ.row⟩
  · refine ⟨fun k z j e e' => ?_, fun k z j e e' => ?_, fun j y e => by simpa [Tr.setT] using h.rng.own j y e, fun j y k e hk => by simpa [Tr.setT] using h.rng.tks j y k e hk⟩
    · rcases set_at e with ⟨rfl, rfl⟩ | ⟨hj, e⟩
      · exact h.rng.sc k x j hx (hsc ▸ e')
      · exact h.rng.sc k z j e e'
    · rcases set_at e with ⟨rfl, rfl⟩ | ⟨hj, e⟩
      · exact hop j e'
      · exact h.rng.op k z j e e'

/-- The list of tasks of a scope has turned. -/
theorem Rep.turnK (h : Rep W own tb L t) {j : Nat} {y y' : Tr.Sc} {v : Value} (hy : t.ss[j]? = some y) (hF : Fr (fun k => k = L.sc j ∨ (L.kv j).ownBlock = some k) W W') (hB : Blk W' (L.sc j) (scC (L.setKv j v) j y'))
    (hv : v.ownBlock = none ∨ v.ownBlock = (L.kv j).ownBlock ∨ ∃ g, v.ownBlock = some g ∧ W.heap.size ≤ g) (hrow : W'.ownsRow 0 101 1 v y'.tks.length (y'.tks.map (tkP L))) (hown : y'.own = y.own) (htk : ∀ i, i ∈ y'.tks → i < t.ts.length) :
    Rep W' (put own v.ownBlock (.kl j)) tb (L.setKv j v) (Tr.setS t j y') := by
  have hK := h.sc j y hy
  have hpk := put_keep own (b := v.ownBlock) (r := .kl j) (n := W.heap.size) (fun k e => by
    rcases hv with hv | hv | ⟨g, hv, hg⟩
    · rw [hv] at e; cases e
    · rw [hv] at e; exact .inl (hK.lown k e)
    · rw [hv] at e; cases e; exact .inr hg) h.lt
  have key : ∀ k r, (k = L.sc j ∨ (L.kv j).ownBlock = some k) → own k = some r → r = .sc j ∨ r = .kl j := fun k r e e' => by
    rcases e with e | e
    · subst e; rw [hK.mine] at e'; exact .inl (Option.some.inj e').symm
    · rw [hK.lown k e] at e'; exact .inr (Option.some.inj e').symm
  refine ⟨fun k r e => ?_, hpk.1 _ _ h.hT, ?_, fun k e => hpk.1 _ _ (h.tlo k e), fun k e => hpk.1 _ _ (h.slo k e), ?_, ?_, fun i x e => ?_, fun i z e => ?_, ?_⟩
  · unfold put at e
    split at e
    · rename_i hb; exact (hrow.lt k hb).2
    · exact Nat.lt_of_lt_of_le (h.lt k r e) hF.size
  · exact h.blk.fr hF fun e => by rcases key _ _ e h.hT with h | h <;> simp at h
  · exact owns_fr h.trow hF fun k e e' => by rcases key _ _ e' (h.tlo k e) with h | h <;> simp at h
  · have := owns_fr h.srow hF fun k e e' => by rcases key _ _ e' (h.slo k e) with h | h <;> simp at h
    rw [show (Tr.setS t j y').ss.length = t.ss.length by simp [Tr.setS], Lay.scP_kv]; exact this
  · have hJ := (h.tk i x e).fr hF fun k hk => ⟨fun e' => by rcases key _ _ hk e' with h | h <;> simp at h, fun e' => by rcases key _ _ hk e' with h | h <;> simp at h⟩
    refine ⟨hpk.1 _ _ hJ.mine, ?_, fun k e => hpk.1 _ _ (hJ.lown k e), ?_⟩
    · have : tkC (L.setKv j v) i x = tkC L i x := by unfold tkC; rw [Lay.scP_kv]; rfl
      rw [this]; exact hJ.blk
    · rw [Lay.scP_kv]; exact hJ.row
  · rcases set_at e with ⟨rfl, rfl⟩ | ⟨hj, e⟩
    · refine ⟨hpk.1 _ _ hK.mine, hB, fun k e => ?_, ?_⟩
      · unfold put; simp only [Lay.setKv, if_true] at e; rw [if_pos e]
      · rw [Lay.tkP_kv]; simpa [Lay.setKv] using hrow
    · have hJ := (h.sc i z e).fr hF fun k hk => ⟨fun e' => by rcases key _ _ hk e' with h | h <;> simp at h; exact hj h, fun e' => by rcases key _ _ hk e' with h | h <;> simp at h; exact hj h⟩
      have e1 : (L.setKv j v).kv i = L.kv i := by simp [Lay.setKv, hj]
      refine ⟨hpk.1 _ _ hJ.mine, ?_, fun k e => ?_, ?_⟩
      · have : scC (L.setKv j v) i z = scC L i z := by unfold scC; rw [e1]; rfl
        rw [this]; exact hJ.blk
      · rw [e1] at e; exact hpk.1 _ _ (hJ.lown k e)
      · rw [e1]; exact hJ.row
  · refine ⟨fun i x k e e' => by simpa [Tr.setS] using h.rng.sc i x k e e', fun i x k e e' => by simpa [Tr.setS] using h.rng.op i x k e e', fun i z e => ?_, fun i z k e e' => ?_⟩
    · rcases set_at e with ⟨rfl, rfl⟩ | ⟨hj, e⟩
      · rw [hown]; exact h.rng.own i y hy
      · exact h.rng.own i z e
    · rcases set_at e with ⟨rfl, rfl⟩ | ⟨hj, e⟩
      · exact htk k e'
      · exact h.rng.tks i z k e e'
end
end Go.Proofs.Ytcegmdlmnibheaa
