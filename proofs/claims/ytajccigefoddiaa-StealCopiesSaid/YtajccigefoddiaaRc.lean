/- A race in memory: its deque and its actors. -/
import Derived.Test.YtajccigefoddiaaAc4
namespace Go.Proofs.Ytajccigefoddiaa
set_option linter.unusedVariables false
set_option linter.unusedSimpArgs false
open Go.RowKit Go.Shelf
inductive Role where
  | race
  | cells
  | acts
  | got (i : Nat)
  | other
abbrev Own := Nat → Option Role
def put (own : Own) (b : Option Nat) (r : Role) : Own := fun k => if b = some k then some r else own k
/-- The blocks of the race itself. -/
def Mine (own : Own) : Nat → Prop := fun k => ∃ r, own k = some r ∧ r ≠ .other
structure Av where
  todo : Value
  next : Value
  got : Value
abbrev acC (a : Av) : List Value := [a.todo, a.next, a.got]
theorem flat_get3 : ∀ {vs : List Av} {i : Nat} {v : Av} (j : Nat), vs[i]? = some v → j < 3 → (vs.flatMap acC)[i * 3 + j]? = (acC v)[j]?
  | [], i, v, j, h, _ => by simp at h
  | x :: l, 0, v, j, h, hj => by
    have : x = v := by simpa using h
    subst this
    rw [List.flatMap_cons, List.getElem?_append_left (by simp; omega)]
    simp
  | x :: l, i + 1, v, j, h, hj => by
    rw [List.flatMap_cons, List.getElem?_append_right (by simp; omega)]
    have := flat_get3 (vs := l) (i := i) j (by simpa using h) hj
    rw [← this]
    congr 1
    simp only [List.length_cons, List.length_nil]
    omega
theorem flat_len3 (vs : List Av) : (vs.flatMap acC).length = vs.length * 3 := by
  induction vs with
  | nil => rfl
  | cons x l ih => simp only [List.flatMap_cons, List.length_append, ih, List.length_cons, List.length_nil]; omega
theorem flat_set3 : ∀ {vs : List Av} {i : Nat} (v : Av), i < vs.length → (((vs.flatMap acC).set (i * 3) v.todo).set (i * 3 + 1) v.next).set (i * 3 + 2) v.got = (vs.set i v).flatMap acC
  | [], i, v, h => by simp at h
  | x :: l, 0, v, h => rfl
  | x :: l, i + 1, v, h => by
    have ih := flat_set3 (vs := l) (i := i) v (by simpa using h)
    rw [show (i + 1) * 3 = i * 3 + 1 + 1 + 1 by omega]
    simp only [List.flatMap_cons, List.cons_append, List.nil_append, List.set_cons_succ]
    rw [← ih]
/-- A race in memory. -/
structure Rep (W : World) (own : Own) (rb cb ab : Nat) (vs : List Av) (cap : Nat) (t : St.T) : Prop where
  lt : ∀ k r, own k = some r → k < W.heap.size
  mr : own rb = some .race
  mc : own cb = some .cells
  ma : own ab = some .acts
  dq : Dr W rb cb (.slice (some ⟨ab, 0, none⟩) t.acts.length cap) t.d
  blk : Blk W ab (vs.flatMap acC)
  len : vs.length = t.acts.length
  n0 : 0 < t.acts.length
  n9 : t.acts.length ≤ 9
  ncap : t.acts.length ≤ cap
  cmax : cap ≤ maxLen
  todo : ∀ (i : Nat) v a, vs[i]? = some v → t.acts[i]? = some a → TodoAt W (fun k => own k = none) v.todo a.todo
  next : ∀ (i : Nat) v a, vs[i]? = some v → t.acts[i]? = some a → PhAt W (fun k => own k = none) v.next a.next
  got : ∀ (i : Nat) v a, vs[i]? = some v → t.acts[i]? = some a → W.ownsRow 0 3 1 v.got a.got.length (ints a.got)
  gl : ∀ (i : Nat) a, t.acts[i]? = some a → a.got.length ≤ 1000
  gown : ∀ (i : Nat) v k, vs[i]? = some v → v.got.ownBlock = some k → own k = some (.got i)
/-- The race behind a call; of what was there its own blocks alone have turned. -/
def Gone (w : World) (own : Own) (rb cb ab cap : Nat) (t : St.T) (w' : World) : Prop := ∃ own' vs, Rep w' own' rb cb ab vs cap t ∧ (∀ k, k < w.heap.size → own' k = own k) ∧ Fr (Mine own) w w'
section
variable {W W' w : World} {own : Own} {rb cb ab cap : Nat} {vs : List Av} {t : St.T}
theorem Rep.fr (h : Rep W own rb cb ab vs cap t) {S : Nat → Prop} (hF : Fr S W W') (h1 : ∀ k, S k → own k = none ∧ W.heap.size ≤ k ∨ False) : Rep W' own rb cb ab vs cap t := by
  have key : ∀ k, k < W.heap.size → ¬ S k := fun k hk hs => by rcases h1 k hs with h1 | h1; omega; exact h1
  have kr : ∀ k r, own k = some r → ¬ S k := fun k r e => key k (h.lt k r e)
  exact ⟨fun k r e => Nat.lt_of_lt_of_le (h.lt k r e) hF.size, h.mr, h.mc, h.ma, h.dq.fr hF (kr _ _ h.mr) (kr _ _ h.mc), h.blk.fr hF (kr _ _ h.ma), h.len, h.n0, h.n9, h.ncap, h.cmax,
    fun i v a e1 e2 => (h.todo i v a e1 e2).fr hF fun k hk hl => ⟨hk, key k hl⟩, fun i v a e1 e2 => (h.next i v a e1 e2).fr hF fun k hk hl => ⟨hk, key k hl⟩,
    fun i v a e1 e2 => owns_fr (h.got i v a e1 e2) hF fun k e => kr _ _ (h.gown i v k e1 e), h.gl, h.gown⟩
theorem Rep.below (h : Rep W own rb cb ab vs cap t) (hb : Below W.heap.size W W') : Rep W' own rb cb ab vs cap t := h.fr (S := none_) (Fr.of_below hb) (fun _ h => h.elim)
/-- A new block is tagged as another's. -/
theorem Rep.tag (h : Rep W own rb cb ab vs cap t) (hb : Below W.heap.size W W') {b : Nat} (h1 : W.heap.size ≤ b) (h2 : b < W'.heap.size) : Rep W' (put own (some b) .other) rb cb ab vs cap t := by
  have h' := h.below hb
  have hk : ∀ k r, own k = some r → put own (some b) .other k = some r := fun k r e => by
    unfold put
    rw [if_neg (fun e2 => by have := h.lt k r e; injection e2 with e2; omega)]
    exact e
  have hn : ∀ k, own k = none → k < W.heap.size → put own (some b) .other k = none ∧ ¬ none_ k := fun k e hk => by
    refine ⟨?_, fun h => h⟩
    unfold put
    rw [if_neg (fun e2 => by injection e2 with e2; omega)]
    exact e
  exact ⟨fun k r e => by
      unfold put at e
      split at e
      · rename_i e2; injection e2 with e2; omega
      · exact h'.lt k r e, hk _ _ h.mr, hk _ _ h.mc, hk _ _ h.ma, h'.dq, h'.blk, h.len, h.n0, h.n9, h.ncap, h.cmax,
    fun i v a e1 e2 => (h.todo i v a e1 e2).fr (Fr.of_below hb) hn, fun i v a e1 e2 => (h.next i v a e1 e2).fr (Fr.of_below hb) hn, h'.got, h.gl, fun i v k e1 e => hk _ _ (h.gown i v k e1 e)⟩
/-- Another's blocks turn. -/
theorem Rep.frO (h : Rep W own rb cb ab vs cap t) {S : Nat → Prop} (hF : Fr S W W') (h1 : ∀ k, S k → own k = some .other ∨ W.heap.size ≤ k) : Rep W' own rb cb ab vs cap t := by
  have kn : ∀ k, own k = none → k < W.heap.size → own k = none ∧ ¬ S k := fun k e hk => ⟨e, fun hs => by rcases h1 k hs with h2 | h2; rw [e] at h2; cases h2; omega⟩
  have kr : ∀ k r, own k = some r → r ≠ .other → ¬ S k := fun k r e hr hs => by
    rcases h1 k hs with h2 | h2
    · rw [e] at h2; exact hr (Option.some.inj h2)
    · have := h.lt k r e; omega
  exact ⟨fun k r e => Nat.lt_of_lt_of_le (h.lt k r e) hF.size, h.mr, h.mc, h.ma, h.dq.fr hF (kr _ _ h.mr (by simp)) (kr _ _ h.mc (by simp)), h.blk.fr hF (kr _ _ h.ma (by simp)), h.len, h.n0, h.n9, h.ncap, h.cmax,
    fun i v a e1 e2 => (h.todo i v a e1 e2).fr hF kn, fun i v a e1 e2 => (h.next i v a e1 e2).fr hF kn,
    fun i v a e1 e2 => owns_fr (h.got i v a e1 e2) hF fun k e => kr _ _ (h.gown i v k e1 e) (by simp), h.gl, h.gown⟩
/-- Blocks of another's turn. -/
theorem Rep.other (h : Rep W own rb cb ab vs cap t) {S : Nat → Prop} (hF : Fr S W W') (h1 : ∀ k, S k → own k = none) (h2 : ∀ (i : Nat) v a, vs[i]? = some v → t.acts[i]? = some a → TodoAt W (fun k => own k = none ∧ ¬ S k) v.todo a.todo ∧ PhAt W (fun k => own k = none ∧ ¬ S k) v.next a.next) : Rep W' own rb cb ab vs cap t := by
  have kr : ∀ k r, own k = some r → ¬ S k := fun k r e hs => by rw [h1 k hs] at e; cases e
  exact ⟨fun k r e => Nat.lt_of_lt_of_le (h.lt k r e) hF.size, h.mr, h.mc, h.ma, h.dq.fr hF (kr _ _ h.mr) (kr _ _ h.mc), h.blk.fr hF (kr _ _ h.ma), h.len, h.n0, h.n9, h.ncap, h.cmax,
    fun i v a e1 e2 => (h2 i v a e1 e2).1.fr hF fun k hk hl => hk, fun i v a e1 e2 => (h2 i v a e1 e2).2.fr hF fun k hk hl => hk,
    fun i v a e1 e2 => owns_fr (h.got i v a e1 e2) hF fun k e => kr _ _ (h.gown i v k e1 e), h.gl, h.gown⟩
theorem Rep.gone (h : Rep W own rb cb ab vs cap t) : Gone W own rb cb ab cap t W := ⟨own, vs, h, fun _ _ => rfl, Fr.refl _ _⟩
theorem Rep.goneB (h : Rep W own rb cb ab vs cap t) (hb : Below W.heap.size W W') : Gone W own rb cb ab cap t W' := ⟨own, vs, h.below hb, fun _ _ => rfl, Fr.of_below hb⟩
theorem Gone.from_ {w w1 w2 : World} (hb : Below w.heap.size w w1) (h : Gone w1 own rb cb ab cap t w2) : Gone w own rb cb ab cap t w2 := by
  obtain ⟨o, M, h1, h2, h3⟩ := h
  exact ⟨o, M, h1, fun k hk => h2 k (by have := hb.size; omega), (Fr.of_below hb).trans h3⟩
theorem Gone.below {w w1 w2 : World} (h : Gone w own rb cb ab cap t w1) (hb : Below w1.heap.size w1 w2) : Gone w own rb cb ab cap t w2 := by
  obtain ⟨o, M, h1, h2, h3⟩ := h
  exact ⟨o, M, h1.below hb, h2, h3.trans (Fr.of_below hb)⟩
theorem Rep.acIn (h : Rep w own rb cb ab vs cap t) {i : Nat} {v : Av} {a : St.Ac} (hv : vs[i]? = some v) (ha : t.acts[i]? = some a) : AcIn w rb cb ab (i * 3) (vs.flatMap acC) (fun k => own k = none ∧ k < w.heap.size) a v.todo v.next v.got := by
  have n1 : ab ≠ rb := fun e => by have := h.ma; rw [e, h.mr] at this; simp at this
  have n2 : ab ≠ cb := fun e => by have := h.ma; rw [e, h.mc] at this; simp at this
  have g : ∀ k r, own k = some r → r ≠ .got i → v.got.ownBlock ≠ some k := fun k r e hr e2 => by have := h.gown i v k hv e2; rw [e] at this; exact hr (Option.some.inj this)
  exact ⟨h.blk, flat_get3 0 hv (by omega), flat_get3 1 hv (by omega), flat_get3 2 hv (by omega), (h.todo i v a hv ha).fr (Fr.refl none_ w) (fun k hk hl => ⟨⟨hk, hl⟩, fun h => h⟩), (h.next i v a hv ha).fr (Fr.refl none_ w) (fun k hk hl => ⟨⟨hk, hl⟩, fun h => h⟩), h.got i v a hv ha, h.gl i a ha,
    fun k hk => ⟨(fun e => by rw [e, h.mr] at hk; exact absurd hk.1 (by simp)), (fun e => by rw [e, h.mc] at hk; exact absurd hk.1 (by simp)), (fun e => by rw [e, h.ma] at hk; exact absurd hk.1 (by simp)), (fun e => by rw [h.gown i v k hv e] at hk; exact absurd hk.1 (by simp))⟩, n1, n2,
    g _ _ h.mr (by simp), g _ _ h.mc (by simp), g _ _ h.ma (by simp)⟩
/-- The race behind a step of an actor. -/
theorem step_gone (h : Rep w own rb cb ab vs cap t) {i : Nat} {v : Av} {a : St.Ac} (hv : vs[i]? = some v) (ha : t.acts[i]? = some a) (hgl : a.got.length ≤ 900) {d' : St.Dq} {a' : St.Ac} (hs : a.step t.d = some (d', a')) {e : Ending} {w' : World}
    (hp : stepPost w rb cb ab (i * 3) (.slice (some ⟨ab, 0, none⟩) t.acts.length cap) (vs.flatMap acC) (fun k => own k = none ∧ k < w.heap.size) v.got (some (d', a')) e w') :
    e = .returned (.bool true) ∧ Gone w own rb cb ab cap ⟨d', t.acts.set i a'⟩ w' := by
  obtain ⟨tv, nv, gv', rfl, hD, hB, hT, hR, hF, hc⟩ := hp
  refine ⟨rfl, ?_⟩
  have hi : i < vs.length := (List.getElem?_eq_some_iff.1 hv).1
  rw [show (((vs.flatMap acC).set (i * 3) tv).set (i * 3 + 1) nv).set (i * 3 + 2) gv' = (vs.set i ⟨tv, nv, gv'⟩).flatMap acC from flat_set3 ⟨tv, nv, gv'⟩ hi] at hB
  have hS0 : ∀ k, stS rb cb ab v.got k → Mine own k := fun k hk => by
    rcases hk with rfl | rfl | rfl | hk
    · exact ⟨_, h.mr, by simp⟩
    · exact ⟨_, h.mc, by simp⟩
    · exact ⟨_, h.ma, by simp⟩
    · exact ⟨_, h.gown i v k hv hk, by simp⟩
  have hS : ∀ k, stS rb cb ab v.got k → own k ≠ none := fun k hk => by obtain ⟨r, e, _⟩ := hS0 k hk; rw [e]; simp
  have hgl' : a'.got.length ≤ 1000 := by
    have : a'.got.length ≤ a.got.length + 1 := by
      unfold St.Ac.step at hs
      split at hs
      · cases hs
      · simp only [Option.some.injEq, Prod.mk.injEq] at hs
        rw [← hs.2]
        simp only
        split <;> simp
    omega
  have hgb : ∀ k, gv'.ownBlock = some k → own k = some (.got i) ∨ w.heap.size ≤ k := fun k e => by
    rcases hc with ⟨_, rfl⟩ | ⟨_, _, hc | ⟨g, hc, hg⟩⟩
    · exact .inl (h.gown i v k hv e)
    · rw [hc] at e; exact .inl (h.gown i v k hv e)
    · rw [hc] at e; cases e; exact .inr hg
  refine ⟨put own gv'.ownBlock (.got i), vs.set i ⟨tv, nv, gv'⟩, ?_, fun k hk => ?_, hF.up hS0⟩
  · have hk : ∀ k r, own k = some r → put own gv'.ownBlock (.got i) k = some r := fun k r e => by
      unfold put
      split
      · rename_i e2
        rcases hgb k e2 with h3 | h3
        · rw [← e, h3]
        · have := h.lt k r e; omega
      · exact e
    have hn : ∀ k, own k = none → k < w.heap.size → put own gv'.ownBlock (.got i) k = none ∧ ¬ stS rb cb ab v.got k := fun k e hk => by
      refine ⟨?_, fun hs => hS k hs e⟩
      unfold put
      split
      · rename_i e2
        rcases hgb k e2 with h3 | h3
        · rw [e] at h3; cases h3
        · omega
      · exact e
    have hother : ∀ (j : Nat) v' , j ≠ i → (vs.set i ⟨tv, nv, gv'⟩)[j]? = some v' → vs[j]? = some v' := fun j v' hj e => by rwa [List.getElem?_set_ne (Ne.symm hj)] at e
    have hothera : ∀ (j : Nat) b, j ≠ i → (t.acts.set i a')[j]? = some b → t.acts[j]? = some b := fun j v' hj e => by rwa [List.getElem?_set_ne (Ne.symm hj)] at e
    have hself : ∀ v', (vs.set i ⟨tv, nv, gv'⟩)[i]? = some v' → v' = ⟨tv, nv, gv'⟩ := fun v' e => by rw [List.getElem?_set_self hi] at e; cases e; rfl
    have hselfa : ∀ b, (t.acts.set i a')[i]? = some b → b = a' := fun v' e => by rw [List.getElem?_set_self (List.getElem?_eq_some_iff.1 ha).1] at e; cases e; rfl
    refine ⟨fun k r e => ?_, hk _ _ h.mr, hk _ _ h.mc, hk _ _ h.ma, by simpa using hD, hB, by simpa using h.len, by simpa using h.n0, by simpa using h.n9, by simpa using h.ncap, h.cmax, fun j v' b e1 e2 => ?_, fun j v' b e1 e2 => ?_, fun j v' b e1 e2 => ?_, fun j b e2 => ?_, fun j v' k e1 e2 => ?_⟩
    · unfold put at e
      split at e
      · rename_i e2; exact (hR.lt k e2).2
      · exact Nat.lt_of_lt_of_le (h.lt k r e) hF.size
    · by_cases hj : j = i
      · subst hj
        rw [hself v' e1, hselfa b e2]
        exact hT.fr (Fr.refl none_ w') fun k hk hl => ⟨(hn k hk.1 hk.2).1, fun h => h⟩
      · exact (h.todo j v' b (hother j v' hj e1) (hothera j b hj e2)).fr hF hn
    · by_cases hj : j = i
      · subst hj
        rw [hself v' e1, hselfa b e2]
        rcases hc with ⟨hc, rfl⟩ | ⟨hc, hc2, -⟩
        · refine hc.fr (Fr.refl none_ w') fun k hk hl => ⟨?_, fun h => h⟩
          rcases hk with hk | hk
          · exact (hn k hk.1 hk.2).1
          · unfold put
            split
            · rename_i e3
              have := h.lt k _ (h.gown j v k hv e3)
              omega
            · cases e4 : own k with
              | none => rfl
              | some r => have := h.lt k r e4; omega
        · show PhAt w' _ nv a'.next
          rw [hc]
          exact hc2
      · exact (h.next j v' b (hother j v' hj e1) (hothera j b hj e2)).fr hF hn
    · by_cases hj : j = i
      · subst hj
        rw [hself v' e1, hselfa b e2]
        exact hR
      · refine owns_fr (h.got j v' b (hother j v' hj e1) (hothera j b hj e2)) hF fun k e hs => ?_
        have h3 := h.gown j v' k (hother j v' hj e1) e
        rcases hs with rfl | rfl | rfl | hs
        · rw [h.mr] at h3; simp at h3
        · rw [h.mc] at h3; simp at h3
        · rw [h.ma] at h3; simp at h3
        · rw [h.gown i v k hv hs] at h3; simp at h3; exact hj h3.symm
    · by_cases hj : j = i
      · subst hj; rw [hselfa b e2]; exact hgl'
      · exact h.gl j b (hothera j b hj e2)
    · by_cases hj : j = i
      · subst hj
        rw [hself v' e1] at e2
        unfold put; rw [if_pos e2]
      · exact hk _ _ (h.gown j v' k (hother j v' hj e1) e2)
  · unfold put
    split
    · rename_i e2
      rcases hgb k e2 with h3 | h3
      · exact h3.symm
      · omega
    · rfl
end
end Go.Proofs.Ytajccigefoddiaa
