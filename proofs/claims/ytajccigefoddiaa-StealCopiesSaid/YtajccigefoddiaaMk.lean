/- A race that is being made. -/
import Derived.Test.YtajccigefoddiaaThf
namespace Go.Proofs.Ytajccigefoddiaa
set_option linter.unusedVariables false
set_option linter.unusedSimpArgs false
open Go.RowKit Go.Shelf
theorem wp_append_at {P : Program} (w : World) {o : Oper} {a : Act} {K : Act → World → Prop} {Q : Exit → Act → World → Prop} (s x : Operand) (t : TypeId)
    (ho : o.op = .call { callee := .builtin .append, args := #[s, x], argTypes := #[t, t] })
    (base : Nat) (e : TypeId) (i : TypeInfo) (z : Value) (size bytes : Nat) (ht : P.underlying t = some (.slice e)) (hi : P.info? e = some i) (hz : i.zero = some z)
    (hsize : i.size = size) (hby : i.bytes = bytes) (hzs : z.cells.size = size) (hsz : 0 < size)
    (v : Value) (n : Nat) (xs : List Value) (hs : a.eval s = v) (hown : w.ownsRow base e size v n xs)
    (ad : Addr) (m c : Nat) (news : List Value) (hx : a.eval x = .slice (some ad) m c) (hl : news.length = m * size) (hnews : ∀ j u, news[j]? = some u → w.cell? (ad.add j) = some u) (h1 : ∀ u ∈ news, u.oneCell' = true)
    (h63 : n + m ≤ maxLen) (hbytes : (n + m) * bytes ≤ 140737488355328) (hbase : base ≤ w.heap.size)
    (h : ∀ v' w', w'.ownsRow base e size v' (n + m) (xs ++ news) → w.grownBy w' v.ownBlock → (v'.ownBlock = v.ownBlock ∨ v'.ownBlock = some w.heap.size) → K (a.put o.dst v') w') : o.wp P a w K Q := by
  obtain ⟨v', w', hr, h2, h3, h4, h5⟩ := run_append_own_at (P := P) w base t o.type e i z size bytes ht hi hz hsize hby hzs hsz v n xs hown ad m c news hl hnews h1 h63 hbytes hbase
  unfold Oper.wp execOp
  simp only [ho, resolve, invoke, builtin, Sem.run_bind, Sem.run_pure, Result.andThen_ok, List.map_toArray, List.map_cons, List.map_nil, hs, hx, hr]
  exact h v' w' h2 h3 h5
theorem cells_new3 (w : World) (a b c : Value) (t : TypeId) : ∀ j u, [a, b, c][j]? = some u → (w.alloc (.cells #[a, b, c] t)).cell? ((⟨w.heap.size, 0, none⟩ : Addr).add j) = some u := by
  intro j u hj
  rw [add_off, Nat.zero_add]
  exact (Blk.new w #[a, b, c] t).cell j u hj
structure MkR (w wr : World) (rb cb room : Nat) (v : Value) (vs : List Av) (acts : List St.Ac) : Prop where
  rbk : Blk wr rb [.slice (some ⟨cb, 0, none⟩) room room, natV 0, .int .i64 0, v]
  cbk : Blk wr cb (ints (List.replicate room 0))
  ne : rb ≠ cb
  rge : w.heap.size ≤ rb
  cge : w.heap.size ≤ cb
  row : wr.ownsRow w.heap.size 91 3 v vs.length (vs.flatMap acC)
  v1 : v.ownBlock ≠ some rb
  v2 : v.ownBlock ≠ some cb
  len : vs.length = acts.length
  each : ∀ (i : Nat) x a, vs[i]? = some x → acts[i]? = some a → x.next = .nilFunc ∧ a.next = none ∧ x.got = .slice none 0 0 ∧ a.got = [] ∧ TodoAt wr (fun k => k ≠ rb ∧ k ≠ cb ∧ v.ownBlock ≠ some k) x.todo a.todo
  bel : Below w.heap.size w wr
section
variable {w wr w1 w2 w5 : World} {rb cb room : Nat} {v v' : Value} {vs : List Av} {acts : List St.Ac} {l : List St.Op}
theorem MkR.below (h : MkR w wr rb cb room v vs acts) (hb : Below wr.heap.size wr w1) : MkR w w1 rb cb room v vs acts :=
  ⟨h.rbk.below hb h.rbk.lt, h.cbk.below hb h.cbk.lt, h.ne, h.rge, h.cge, owns_fr h.row (Fr.of_below hb : Fr none_ _ _) (fun _ _ h => h), h.v1, h.v2, h.len,
    fun i x a e1 e2 => by
      obtain ⟨a1, a2, a3, a4, a5⟩ := h.each i x a e1 e2
      exact ⟨a1, a2, a3, a4, a5.fr (Fr.of_below hb : Fr none_ _ _) (fun k hk _ => ⟨hk, fun h => h⟩)⟩, h.bel.trans (hb.mono h.bel.size)⟩
theorem MkR.snoc (h : MkR w wr rb cb room v vs acts) {tv : Value} (hT : w2.ownsRow wr.heap.size 122 1 tv l.length (opsV l)) (hb : Below wr.heap.size wr w2) {o : Obj} (hG : (w2.alloc o).grownBy w5 v.ownBlock)
    (hrow : w5.ownsRow w.heap.size 91 3 v' (vs.length + 1) (vs.flatMap acC ++ [tv, .nilFunc, .slice none 0 0])) (hat : v'.ownBlock = v.ownBlock ∨ v'.ownBlock = some (w2.alloc o).heap.size) :
    MkR w (w5.setCell ⟨rb, 3, none⟩ v') rb cb room v' (vs ++ [⟨tv, .nilFunc, .slice none 0 0⟩]) (acts ++ [⟨l, none, []⟩]) := by
  have h2 := h.below hb
  have hr := h2.rbk.lt
  have hc := h2.cbk.lt
  have hz := hb.size
  have hz0 := h.bel.size
  have hTl := fun k e => hT.lt k e
  have hF : Fr (fun k => v.ownBlock = some k) w2 w5 := Fr.grown ((Fr.refl _ w2).alloc o) hG (fun x e => .inl e) (owns_cells (h2.row.alloc o))
  have hF2 : Fr (fun k => k = rb ∨ v.ownBlock = some k) w2 (w5.setCell ⟨rb, 3, none⟩ v') := (hF.up (S' := fun k => k = rb ∨ v.ownBlock = some k) fun x e => .inr e).trans ((frA w5 rb 3 v').up fun x e => .inl e)
  have hnv : ∀ k, v'.ownBlock = some k → v.ownBlock = some k ∨ k = w2.heap.size + 1 := fun k e => by
    rcases hat with hat | hat
    · rw [hat] at e; exact .inl e
    · rw [hat] at e; simp at e; exact .inr e.symm
  refine ⟨?_, (h2.cbk.fr hF h.v2).set_other (Ne.symm h.ne) _, h.ne, h.rge, h.cge, ?_, fun e => ?_, fun e => ?_, by simp [h.len], fun i x a e1 e2 => ?_, ?_⟩
  · have := (h2.rbk.fr hF h.v1).set (o := 3) (by simp) v'
    exact this
  · have e1 : (vs ++ [(⟨tv, .nilFunc, .slice none 0 0⟩ : Av)]).flatMap acC = vs.flatMap acC ++ [tv, .nilFunc, .slice none 0 0] := by simp
    rw [e1]
    have e2 : (vs ++ [(⟨tv, .nilFunc, .slice none 0 0⟩ : Av)]).length = vs.length + 1 := by simp
    rw [e2]
    refine owns_fr hrow (frA w5 rb 3 v') (fun k e hk => ?_)
    subst hk
    rcases hnv _ e with h3 | h3
    · exact h.v1 h3
    · omega
  · rcases hnv _ e with h3 | h3
    · exact h.v1 h3
    · omega
  · rcases hnv _ e with h3 | h3
    · exact h.v2 h3
    · omega
  · by_cases hi : i < vs.length
    · rw [List.getElem?_append_left hi] at e1
      rw [List.getElem?_append_left (by rw [← h.len]; exact hi)] at e2
      obtain ⟨a1, a2, a3, a4, a5⟩ := h2.each i x a e1 e2
      refine ⟨a1, a2, a3, a4, a5.fr hF2 (fun k hk hl => ⟨⟨hk.1, hk.2.1, fun e => ?_⟩, fun e => ?_⟩)⟩
      · rcases hnv _ e with h3 | h3
        · exact hk.2.2 h3
        · omega
      · rcases e with e | e
        · exact hk.1 e
        · exact hk.2.2 e
    · have hi2 := (List.getElem?_eq_some_iff.1 e1).1
      simp at hi2
      obtain rfl : i = vs.length := by omega
      rw [List.getElem?_append_right (Nat.le_refl _)] at e1
      rw [h.len, List.getElem?_append_right (Nat.le_refl _)] at e2
      simp at e1 e2
      subst e1 e2
      refine ⟨rfl, rfl, rfl, rfl, ?_⟩
      have hT0 : TodoAt w2 (fun k => wr.heap.size ≤ k ∧ k < w2.heap.size) tv l := by
        have := newAc.todo (w := wr) (A := fun k => wr.heap.size ≤ k) hT (fun k hk => hk)
        exact this.fr (Fr.refl none_ w2) (fun k hk hl => ⟨⟨hk, hl⟩, fun h => h⟩)
      have hrl := h.rbk.lt
      have hcl := h.cbk.lt
      refine hT0.fr hF2 (fun k hk hl => ⟨⟨by omega, by omega, fun e => ?_⟩, fun e => ?_⟩)
      · rcases hnv _ e with h3 | h3
        · have := (h.row.lt k h3).2; omega
        · omega
      · rcases e with e | e
        · omega
        · have := (h.row.lt k e).2; omega
  · have hb2 : Below w.heap.size w (w2.alloc o) := bAl h2.bel o
    exact bSt (hb2.grown hG (by have := h2.bel.size; simp; omega) (fun b e => (h2.row.lt b e).1)) h.rge _ _
end
/-- A statement's own race, in blocks that the call has made. -/
structure Ow (w0 : World) (own : Own) (rb cb ab cap : Nat) (t : St.T) (wr : World) : Prop where
  rep : ∃ vs, Rep wr own rb cb ab vs cap t
  ge : ∀ k r, own k = some r → w0.heap.size ≤ k
  bel : Below w0.heap.size w0 wr
section
variable {w0 w wr W : World} {own : Own} {rb cb ab cap room : Nat} {t t' : St.T} {v : Value} {vs : List Av} {acts : List St.Ac}
theorem Ow.gone (h : Ow w0 own rb cb ab cap t wr) (hG : Gone wr own rb cb ab cap t' W) : ∃ own', Ow w0 own' rb cb ab cap t' W ∧ (∀ k, k < wr.heap.size → own' k = own k) ∧ Fr (Mine own) wr W := by
  obtain ⟨own', vs', hR, hk, hF⟩ := hG
  have hz := h.bel.size
  refine ⟨own', ⟨⟨vs', hR⟩, fun k r e => ?_, h.bel.trans (hF.below (fun x hx => ?_) hz)⟩, hk, hF⟩
  · by_cases hkl : k < wr.heap.size
    · rw [hk k hkl] at e; exact h.ge k r e
    · omega
  · obtain ⟨r, e, _⟩ := hx
    exact h.ge x r e
theorem Ow.below (h : Ow w0 own rb cb ab cap t wr) (hb : Below wr.heap.size wr W) : Ow w0 own rb cb ab cap t W := by
  obtain ⟨vs, hR⟩ := h.rep
  exact ⟨⟨vs, hR.below hb⟩, h.ge, h.bel.trans (hb.mono h.bel.size)⟩
theorem MkR.ow (h : MkR w wr rb cb room v vs acts) (h1 : 1 ≤ room) (h2 : room ≤ 16) (h3 : 0 < acts.length) (h4 : acts.length ≤ 9) :
    ∃ own ab cap, Ow w own rb cb ab cap ⟨⟨List.replicate room 0, 0, 0⟩, acts⟩ wr := by
  have hl := h.len
  rcases h.row.2 with ⟨_, h0⟩ | ⟨ab, cap, cur, e, hb, hg, hn, hc, hs, hx⟩
  · omega
  subst e
  have n1 : ab ≠ rb := fun e => h.v1 (by rw [e]; rfl)
  have n2 : ab ≠ cb := fun e => h.v2 (by rw [e]; rfl)
  have hal : ab < wr.heap.size := (Array.getElem?_eq_some_iff.1 hg).1
  refine ⟨fun k => if k = rb then some .race else if k = cb then some .cells else if k = ab then some .acts else none, ab, cap, ⟨vs, ?_⟩, fun k r e => ?_, h.bel⟩
  · have hown : ∀ k, (k ≠ rb ∧ k ≠ cb ∧ (Value.slice (some ⟨ab, 0, none⟩) vs.length cap).ownBlock ≠ some k) → (if k = rb then some Role.race else if k = cb then some .cells else if k = ab then some .acts else none) = none := fun k hk => by
      rw [if_neg hk.1, if_neg hk.2.1, if_neg (fun e => hk.2.2 (by rw [e]; rfl))]
    refine ⟨fun k r e => ?_, if_pos rfl, by simp [Ne.symm h.ne], by simp [n1, n2], ⟨?_, h.cbk, h.ne, by simp; omega, by simpa using h2, by simp, by simp, by simp⟩, ⟨hal, fun o u ho => ?_, fun o => ?_, ?_⟩, hl, h3, h4, by rw [← hl]; exact hn, hc, fun i x a e1 e2 => ?_, fun i x a e1 e2 => ?_, fun i x a e1 e2 => ?_, fun i a e2 => ?_, fun i x k e1 e2 => ?_⟩
    · split at e
      · rename_i e2; rw [e2]; exact h.rbk.lt
      · split at e
        · rename_i e2; rw [e2]; exact h.cbk.lt
        · split at e
          · rename_i e2; rw [e2]; exact hal
          · cases e
    · have := h.rbk.recap
      rw [hl] at this
      simpa using this
    · have := h.row.cells (g := ab) rfl o u ho
      rw [add_off, Nat.zero_add] at this
      exact this
    · simp [World.frozen?, hg]
    · exact ⟨_, _, hg⟩
    · obtain ⟨a1, a2, a3, a4, a5⟩ := h.each i x a e1 e2
      exact a5.fr (Fr.refl none_ wr) (fun k hk _ => ⟨hown k hk, fun h => h⟩)
    · obtain ⟨a1, a2, a3, a4, a5⟩ := h.each i x a e1 e2
      rw [a1, a2]; rfl
    · obtain ⟨a1, a2, a3, a4, a5⟩ := h.each i x a e1 e2
      rw [a3, a4]; exact World.ownsRow_nil _ _ _ _
    · obtain ⟨x, e1⟩ : ∃ x, vs[i]? = some x := ⟨_, List.getElem?_eq_getElem (by have : i < acts.length := (List.getElem?_eq_some_iff.1 e2).1; omega)⟩
      obtain ⟨a1, a2, a3, a4, a5⟩ := h.each i x a e1 e2
      rw [a4]; simp
    · obtain ⟨a, e3⟩ : ∃ a, acts[i]? = some a := ⟨_, List.getElem?_eq_getElem (by have := (List.getElem?_eq_some_iff.1 e1).1; omega)⟩
      obtain ⟨a1, a2, a3, a4, a5⟩ := h.each i x a e1 e3
      rw [a3] at e2; simp [Value.ownBlock] at e2
  · split at e
    · rename_i e2; rw [e2]; exact h.rge
    · split at e
      · rename_i e2; rw [e2]; exact h.cge
      · split at e
        · rename_i e2; rw [e2]; exact hb
        · cases e
end
end Go.Proofs.Ytajccigefoddiaa
