/- Maps of numbers and lists of numbers in memory. -/
import Derived.Test.YtpkldcnkadfhgaaSpec
import Derived.Maps.OwnSet
import Derived.Maps.AppendAt
import Derived.Deep.RegionHeld3
import Derived.Deep.RegionWith
namespace Go.Proofs.Ytpkldcnkadfhgaa
open Go.RowKit
open Go.Maps (Keyed)

theorem one (w : World) (o : Obj) : Below w.heap.size w (w.alloc o) := (Below.refl _ _).alloc (Nat.le_refl _) _
theorem below_drewN {B : Nat} {a w : World} (h : Below B a w) (n : Nat) : Below B a (w.drewN n) := ⟨h.os, h.tape, h.output, h.size, h.block⟩
theorem cell_of {w w' : World} {p : Addr} {v : Value} (h : Below w.heap.size w w') (hc : w.cell? p = some v) : w'.cell? p = some v := (h.cell (World.block_lt_of_cell? w p hc)).trans hc
theorem wf64 {x : Int} (h1 : -9223372036854775808 ≤ x) (h2 : x ≤ 9223372036854775807) : (Lit.int .i64 x).wf = true := by simp [Lit.wf, IntKind.min, IntKind.max, IntKind.signed, IntKind.bits]; omega

/-! ### maps -/
/-- What a map of numbers reads as. -/
def mapE (l : Lk.KV) : List (Lit × DataW Unit) := l.map fun p => (.int .i64 p.1, .lit (.int .i64 p.2))
def mapD (l : Lk.KV) : DataW Unit := .map (mapE l)

theorem same_int (a k : Int) : (Lit.int .i64 a).sameKey (.int .i64 k) = decide (a = k) := by simp [Lit.sameKey]
theorem mapD_at (l : Lk.KV) (k : Int) : (mapD l).atKey (.int .i64 k) (.lit (.int .i64 0)) = .lit (.int .i64 (Lk.kget l k)) := by
  induction l with
  | nil => rfl
  | cons p r ih =>
    obtain ⟨a, b⟩ := p
    unfold mapD mapE at ih ⊢
    unfold DataW.atKey at ih ⊢
    simp only [List.map_cons, List.find?_cons, same_int]
    by_cases h : a = k
    · simp [h, Lk.kget]
    · simp only [h, decide_false, Lk.kget, if_false]; exact ih
theorem mapD_has (l : Lk.KV) (k : Int) : Maps.has (mapD l) (.int .i64 k) = Lk.khas l k := by
  induction l with
  | nil => rfl
  | cons p r ih =>
    obtain ⟨a, b⟩ := p
    unfold mapD mapE at ih ⊢
    rw [Maps.has_eq] at ih ⊢
    simp only [List.map_cons, List.any_cons, same_int, Lk.khas, ih]
theorem mapE_del (l : Lk.KV) (k : Int) : (mapE l).filter (ChangeMaps.notKey (.int .i64 k)) = mapE (Lk.kdel k l) := by
  induction l with
  | nil => rfl
  | cons p r ih =>
    obtain ⟨a, b⟩ := p
    have e : mapE ((a, b) :: r) = (.int .i64 a, .lit (.int .i64 b)) :: mapE r := rfl
    have n : ChangeMaps.notKey (H := Unit) (.int .i64 k) (.int .i64 a, .lit (.int .i64 b)) = !decide (a = k) := by simp [ChangeMaps.notKey, same_int]
    rw [e, List.filter_cons, n]
    by_cases h : a = k
    · simp [h, ih, Lk.kdel]
    · have e2 : Lk.kdel k ((a, b) :: r) = (a, b) :: Lk.kdel k r := by simp [Lk.kdel, h]
      rw [e2]
      simp only [h, decide_false, Bool.not_false, if_true, ih]
      rfl
theorem mapE_ins (x : Int × Int) (l : Lk.KV) : DataW.insert (.int .i64 x.1, .lit (.int .i64 x.2)) (mapE l) = mapE (Lk.kins x l) := by
  induction l with
  | nil => rfl
  | cons p r ih =>
    have e : mapE (p :: r) = (.int .i64 p.1, .lit (.int .i64 p.2)) :: mapE r := rfl
    rw [e]
    unfold DataW.insert Lk.kins
    simp only [Lit.before, decide_eq_true_eq]
    split
    · rfl
    · rw [ih]; rfl
theorem mapD_put (l : Lk.KV) (k v : Int) : (mapD l).put (.int .i64 k) (.lit (.int .i64 v)) = mapD (Lk.kput k v l) := by
  unfold mapD
  rw [DataW.put_eq]
  unfold ChangeMaps.putKey
  rw [mapE_del, mapE_ins (k, v)]
  rfl
theorem mapD_del (l : Lk.KV) (k : Int) : (mapD l).del (.int .i64 k) = mapD (Lk.kdel k l) := by
  unfold mapD
  rw [DataW.del_eq]
  unfold ChangeMaps.delKey
  rw [mapE_del]

theorem K3 : Keyed Try.prog 3 := Maps.int_keyed Try.underlying3
theorem key_int {k : Int} (h : (Lit.int .i64 k).wf = true) : keyOf Try.prog 3 (.int .i64 k) = some (.int .i64 k) := Maps.keyOf_int_mk Try.underlying3 h

/-- Block b is a map of numbers. -/
def MapIs (W : World) (b : Nat) (l : Lk.KV) : Prop := W.ownsMap Try.prog 3 (plainElem (H := Unit) Try.prog 3) b l.length (mapD l)

section
variable {W W' : World} {b n : Nat} {l : Lk.KV}
theorem MapIs.of (h : W.ownsMap Try.prog 3 (plainElem (H := Unit) Try.prog 3) b n (mapD l)) : MapIs W b l := by
  obtain ⟨es, clock, hb, F, hs, hD⟩ := h
  refine ⟨es, clock, hb, F, ?_, hD⟩
  have h1 : Maps.size (mapD l) = l.length := by simp [mapD, mapE, Maps.size]
  rw [hD] at h1
  simp [Maps.size, length_sorted] at h1
  omega
theorem MapIs.lt (h : MapIs W b l) : b < W.heap.size := World.ownsMap.lt h
theorem MapIs.of_eq (h : MapIs W b l) (hb : W'.heap[b]? = W.heap[b]?) : MapIs W' b l := by
  obtain ⟨es, clock, h1, F, hs, hD⟩ := h
  exact ⟨es, clock, hb.trans h1, F, hs, hD⟩
theorem MapIs.fr (h : MapIs W b l) {S : Nat → Prop} (hf : Fr S W W') (hn : ¬ S b) : MapIs W' b l := h.of_eq (hf.block b h.lt hn)
theorem MapIs.below (h : MapIs W b l) (hb : Below W.heap.size W W') : MapIs W' b l := h.of_eq (hb.block b h.lt)
theorem MapIs.alloc (h : MapIs W b l) (o : Obj) : MapIs (W.alloc o) b l := h.below (one _ _)
theorem MapIs.set_other (h : MapIs W b l) {b' o : Nat} (hb : b ≠ b') (v : Value) : MapIs (W.setCell ⟨b', o, none⟩ v) b l := h.of_eq (Below.heap_setCell _ _ _ _ hb)
theorem MapIs.new (W : World) : MapIs (W.alloc (.map #[] 0)) W.heap.size [] := World.ownsMap_made W _ _ _
theorem Fr.map {S : Nat → Prop} {A B C : World} (h : Fr S A B) {b : Nat} (hb : S b ∨ A.heap.size ≤ b) (k : B.mapTurned C b) : Fr S A C :=
  h.grown k.grown fun x e => by cases e; exact hb
theorem Blk.turned {m k : Nat} {g : Nat → Value} (h : Blk W m k g) (ht : W.mapTurned W' b) (hb : m ≠ b) : Blk W' m k g := h.grown ht.grown (by simpa using hb)
theorem MapIs.turned {m : Nat} (h : MapIs W m l) (ht : W.mapTurned W' b) (hb : m ≠ b) : MapIs W' m l :=
  h.of_eq (ht.grown.block m h.lt (by simpa using hb))
theorem turned_size (ht : W.mapTurned W' b) : W'.heap.size = W.heap.size := by
  obtain ⟨es, clock, es', clock', hb, rfl⟩ := ht
  simp [ChangeMaps.setBlock]
end

section
variable (w : World) {ops : Array Oper} {rest : List Oper} {o : Oper} {a : Act} {Q : Exit → Act → World → Prop}
theorem wpList_get (hg : o.guard = none) (m x : Operand) (hop : o.op = Op.lookup 66 m x false) (b : Nat) (l : Lk.KV) (k : Int) (hm : a.eval m = .map (some b)) (h : MapIs w b l) (hx : a.eval x = .int .i64 k) (hk : (Lit.int .i64 k).wf = true)
    (hK : wpList Try.prog ops Q rest (a.put o.dst (.int .i64 (Lk.kget l k))) w) : wpList Try.prog ops Q (o :: rest) a w := by
  refine wpList_plain hg fun K' hK' => ?_
  obtain ⟨c, hrun, hat, _⟩ := World.ownsMap.lookup_int h K3 Try.underlying66 Try.underlying3 (Try.zeroValue3 w) (key_int hk)
  rw [mapD_at] at hat
  cases hat
  unfold Oper.wp
  simp [execOp, hop, hm, hx, hrun, Result.andThen]
  exact hK' _ _ hK
theorem wpList_has (hg : o.guard = none) (m x : Operand) (hop : o.op = Op.lookup 66 m x true) (b : Nat) (l : Lk.KV) (k : Int) (hm : a.eval m = .map (some b)) (h : MapIs w b l) (hx : a.eval x = .int .i64 k) (hk : (Lit.int .i64 k).wf = true)
    (hK : wpList Try.prog ops Q rest (a.put o.dst (.tuple #[.int .i64 (Lk.kget l k), .bool (Lk.khas l k)])) w) : wpList Try.prog ops Q (o :: rest) a w :=
  wpList_lookup_own_ok_int w hg m x 66 hop 3 3 .i64 K3 Try.underlying66 Try.underlying3 (Try.zeroValue3 w) b _ (mapD l) hm h _ _ hx (key_int hk) fun c hat _ => by
    rw [mapD_at] at hat
    cases hat
    rw [mapD_has]
    exact hK
theorem wpList_has_nil (hg : o.guard = none) (m x : Operand) (hop : o.op = Op.lookup 66 m x true) (k : Int) (hm : a.eval m = .map none) (hx : a.eval x = .int .i64 k) (hk : (Lit.int .i64 k).wf = true)
    (hK : wpList Try.prog ops Q rest (a.put o.dst (.tuple #[.int .i64 0, .bool false])) w) : wpList Try.prog ops Q (o :: rest) a w := by
  refine wpList_plain hg fun K' hK' => ?_
  have hrun := Maps.look_nil (w := w) true K3 Try.underlying66 (Try.zeroValue3 w) (key_int hk)
  unfold Oper.wp
  simp [execOp, hop, hm, hx, hrun, Result.andThen]
  exact hK' _ _ hK
theorem wpList_put (hg : o.guard = none) (m x v : Operand) (hop : o.op = Op.mapUpdate 66 m x v) (b : Nat) (l : Lk.KV) (k c : Int) (hm : a.eval m = .map (some b)) (h : MapIs w b l) (hx : a.eval x = .int .i64 k) (hv : a.eval v = .int .i64 c) (hk : (Lit.int .i64 k).wf = true) (hc : (Lit.int .i64 c).wf = true) (hn : l.length < maxLen)
    (hK : ∀ w', MapIs w' b (Lk.kput k c l) → w.mapTurned w' b → wpList Try.prog ops Q rest (a.put o.dst undef) w') : wpList Try.prog ops Q (o :: rest) a w :=
  wpList_mapUpdate_in w hg m x v 66 hop 3 3 K3 Try.underlying66 _ b _ (mapD l) hm h hn _ _ _ hx hv (key_int hk) _ _ (plainElem_int Try.underlying3 hc) fun w' h1 h2 => hK w' (MapIs.of (by rw [← mapD_put]; exact h1)) h2
theorem wpList_del (hg : o.guard = none) (m x : Operand) (hop : o.op = Op.call { callee := Callee.builtin Builtin.delete, args := #[m, x], argTypes := #[66, 3] }) (b : Nat) (l : Lk.KV) (k : Int) (hm : a.eval m = .map (some b)) (h : MapIs w b l) (hx : a.eval x = .int .i64 k) (hk : (Lit.int .i64 k).wf = true)
    (hK : ∀ w', MapIs w' b (Lk.kdel k l) → w.mapTurned w' b → wpList Try.prog ops Q rest (a.put o.dst (.tuple #[])) w') : wpList Try.prog ops Q (o :: rest) a w :=
  wpList_delete_own w hg m x 66 3 hop 3 K3 Try.underlying66 _ b _ (mapD l) hm h _ _ hx (key_int hk) fun w' h1 h2 => hK w' (MapIs.of (by rw [← mapD_del]; exact h1)) h2
theorem wpList_del_nil (hg : o.guard = none) (m x : Operand) (hop : o.op = Op.call { callee := Callee.builtin Builtin.delete, args := #[m, x], argTypes := #[66, 3] }) (k : Int) (hm : a.eval m = .map none) (hx : a.eval x = .int .i64 k) (hk : (Lit.int .i64 k).wf = true)
    (hK : wpList Try.prog ops Q rest (a.put o.dst (.tuple #[])) w) : wpList Try.prog ops Q (o :: rest) a w := by
  refine wpList_plain hg fun K' hK' => ?_
  have hrun := Maps.drop_nil (w := w) K3 Try.underlying66 (key_int hk) o.type
  unfold Oper.wp
  simp [execOp, hop, resolve, invoke, builtin, hm, hx, hrun, Result.andThen]
  exact hK' _ _ hK
end

/-! ### lists -/
/-- A slice of numbers, in a block of its own. -/
def Line (W : World) (v : Value) (L : List Int) : Prop :=
  (v = .slice none 0 0 ∧ L = []) ∨ ∃ (g off cap : Nat) (cur : Array Value), v = .slice (some ⟨g, off, none⟩) L.length cap ∧ L.length ≤ cap ∧ cap ≤ maxLen ∧ W.heap[g]? = some (.cells cur 3 (0, 0)) ∧ off + cap ≤ cur.size ∧ ∀ i x, L[i]? = some x → cur[off + i]? = some (.int .i64 x)

section
variable {W W' : World} {v : Value} {L : List Int}
theorem Line.nil (W : World) : Line W (.slice none 0 0) [] := .inl ⟨rfl, rfl⟩
theorem Line.block (h : Line W v L) : ∀ k, v.ownBlock = some k → k < W.heap.size := by
  intro k hk
  rcases h with ⟨rfl, _⟩ | ⟨g, off, cap, cur, rfl, _, _, hg, _⟩
  · simp [Value.ownBlock] at hk
  · simp [Value.ownBlock] at hk
    subst hk
    exact (Array.getElem?_eq_some_iff.1 hg).1
theorem Line.of_eq (h : Line W v L) (hb : ∀ k, v.ownBlock = some k → W'.heap[k]? = W.heap[k]?) : Line W' v L := by
  rcases h with h | ⟨g, off, cap, cur, rfl, h1, h2, hg, h3, h4⟩
  · exact .inl h
  · exact .inr ⟨g, off, cap, cur, rfl, h1, h2, (hb g rfl).trans hg, h3, h4⟩
theorem Line.fr (h : Line W v L) {S : Nat → Prop} (hf : Fr S W W') (hn : ∀ k, v.ownBlock = some k → ¬ S k) : Line W' v L := h.of_eq fun k e => hf.block k (h.block k e) (hn k e)
theorem Line.below (h : Line W v L) (hb : Below W.heap.size W W') : Line W' v L := h.of_eq fun k e => hb.block k (h.block k e)
theorem Line.alloc (h : Line W v L) (o : Obj) : Line (W.alloc o) v L := h.below (one _ _)
theorem Line.set_other (h : Line W v L) {b' o : Nat} (hb : v.ownBlock ≠ some b') (u : Value) : Line (W.setCell ⟨b', o, none⟩ u) v L := h.of_eq fun k e => Below.heap_setCell _ _ _ _ (fun e' => hb (by rw [e]; exact congrArg some e'))
theorem Line.turned {b : Nat} (h : Line W v L) (ht : W.mapTurned W' b) (hb : v.ownBlock ≠ some b) : Line W' v L := h.of_eq fun k e => ht.grown.block k (h.block k e) (fun e' => hb (by rw [e]; exact e'))
theorem Line.form (h : Line W v L) : ∃ p cap, v = .slice p L.length cap ∧ L.length ≤ cap ∧ cap ≤ maxLen ∧ (0 < L.length → ∃ g off, p = some ⟨g, off, none⟩ ∧ g < W.heap.size) := by
  rcases h with ⟨rfl, rfl⟩ | ⟨g, off, cap, cur, rfl, h1, h2, hg, h3, h4⟩
  · exact ⟨none, 0, rfl, Nat.le_refl _, Nat.zero_le _, by simp⟩
  · exact ⟨_, cap, rfl, h1, h2, fun _ => ⟨g, off, rfl, (Array.getElem?_eq_some_iff.1 hg).1⟩⟩
theorem Line.cell {g off n cap : Nat} (h : Line W (.slice (some ⟨g, off, none⟩) n cap) L) {i : Nat} {x : Int} (hx : L[i]? = some x) : W.cell? ⟨g, off + i, none⟩ = some (.int .i64 x) := by
  rcases h with ⟨e, _⟩ | ⟨g', off', cap', cur, e, h1, h2, hg, h3, h4⟩
  · cases e
  · cases e
    have := h4 i x hx
    simp [World.cell?, hg, this]

theorem add_off (g off k : Nat) : (⟨g, off, none⟩ : Addr).add k = ⟨g, off + k, none⟩ := by unfold Addr.add; split <;> simp_all

theorem run_append_room_off {P : Program} (w : World) (t ty e : TypeId) (i : TypeInfo) (ht : P.underlying t = some (.slice e)) (hi : P.info? e = some i)
    (g off sLen sCap : Nat) (cur : Array Value) (hg : w.heap[g]? = some (.cells cur e (0, 0)))
    (a : Addr) (m c : Nat) (news : List Value) (hl : news.length = m * i.size) (hnews : ∀ j u, news[j]? = some u → w.cell? (a.add j) = some u) (h1 : ∀ u ∈ news, u.oneCell' = true)
    (hroom : sLen + m ≤ sCap) (hfit : off + sLen * i.size + news.length ≤ cur.size) :
    (Builtin.append_ #[t, t] ty #[.slice (some ⟨g, off, none⟩) sLen sCap, .slice (some a) m c]).run P w =
      .ok (.slice (some ⟨g, off, none⟩) (sLen + m) sCap) (w.setRow g (cur.toList.take (off + sLen * i.size) ++ news ++ cur.toList.drop (off + sLen * i.size + news.length)).toArray) := by
  have hf := run_firstCells_some (P := P) w i.size m a m c news hl hnews
  have hst := run_storeCells_at P g (off + sLen * i.size) e news 0 cur w hg (by simpa using hfit) h1
  simp only [Nat.add_zero] at hst
  simp [Builtin.append_, run_underlying ht, sizeOf, typeInfo, hi, Builtin.lenOf, hroom, hf, add_off, hst]

theorem info3 : (Try.prog.info? 3).map (fun i => (i.zero, i.size, i.bytes)) = some (some (.int .i64 0), 1, 8) := by kernel_rfl
theorem info_parts {o : Option TypeInfo} {z : Value} {s b : Nat} (h : o.map (fun i => (i.zero, i.size, i.bytes)) = some (some z, s, b)) : ∃ i, o = some i ∧ i.zero = some z ∧ i.size = s ∧ i.bytes = b := by
  cases o with
  | none => simp at h
  | some i => simp at h; exact ⟨i, rfl, h.1, h.2.1, h.2.2⟩

/-- One number more. -/
theorem run_append_line (w : World) (ty : TypeId) (v : Value) (L : List Int) (h : Line w v L) (a : Addr) (c : Nat) (p : Int) (hc : w.cell? a = some (.int .i64 p)) (hlen : L.length ≤ 2000000) :
    ∃ v' w', (Builtin.append_ #[42, 42] ty #[v, .slice (some a) 1 c]).run Try.prog w = .ok v' w' ∧ Line w' v' (L ++ [p]) ∧ w.grownBy w' v.ownBlock ∧ (v'.ownBlock = v.ownBlock ∨ v'.ownBlock = some w.heap.size) := by
  obtain ⟨i, hi, hz, hs, hb⟩ := info_parts info3
  have hnews : ∀ j u, [Value.int .i64 p][j]? = some u → w.cell? (a.add j) = some u := by
    intro j u hj
    match j, hj with
    | 0, hj => simp at hj; subst hj; rw [show a.add 0 = a by unfold Addr.add; split <;> simp_all]; exact hc
  have grown : ∀ (old : Nat) (row : Option Nat), old < L.length + 1 → 
      Line (w.drew.alloc (.cells ((L.map (Value.int .i64)).toArray ++ #[.int .i64 p] ++ Builtin.zeroCells (Value.int .i64 0).cells (grownCap w (L.length + 1) old 3 - (L.length + 1))) 3)) (.slice (some ⟨w.heap.size, 0, none⟩) (L.length + 1) (grownCap w (L.length + 1) old 3)) (L ++ [p]) ∧
      w.grownBy (w.drew.alloc (.cells ((L.map (Value.int .i64)).toArray ++ #[.int .i64 p] ++ Builtin.zeroCells (Value.int .i64 0).cells (grownCap w (L.length + 1) old 3 - (L.length + 1))) 3)) row := by
    intro old row ho
    have hge := grownCap_ge w (L.length + 1) old 3
    have hcm := grownCap_le_maxLen w (L.length + 1) old 3 (by unfold maxLen; omega)
    refine ⟨.inr ⟨w.heap.size, 0, _, _, by simp, by simpa using hge, hcm, heap_alloc_new w.drew _, ?_, ?_⟩, ⟨rfl, rfl, rfl, by simp, fun k hk _ => Below.heap_alloc w.drew _ k hk⟩⟩
    · simp [size_zeroCells, Value.cells]; omega
    · intro j x hx
      have hj : j < L.length + 1 := by have := (List.getElem?_eq_some_iff.1 hx).1; simpa using this
      rw [Nat.zero_add, Array.getElem?_append_left (by simp; omega)]
      have e : (L.map (Value.int .i64)).toArray ++ #[.int .i64 p] = ((L ++ [p]).map (Value.int .i64)).toArray := by simp
      rw [e, List.getElem?_toArray, List.getElem?_map, hx]
      rfl
  rcases h with ⟨rfl, rfl⟩ | ⟨g, off, cap, cur, rfl, h1, h2, hg, h3, h4⟩
  · have hr := run_append_nil (P := Try.prog) w 42 ty 3 i (.int .i64 0) Try.underlying42 hi hz a 1 c [.int .i64 p] (by simp [hs]) hnews (by omega) (by omega) (by rw [hb]; omega)
    have hgr := grown 0 (Value.ownBlock (.slice none 0 0)) (by simp)
    simp only [List.map_nil, List.length_nil, Nat.zero_add, List.nil_append] at hgr
    exact ⟨_, _, hr, by simpa using hgr.1, by simpa using hgr.2, .inr rfl⟩
  · by_cases hroom : L.length + 1 ≤ cap
    · have hr := run_append_room_off (P := Try.prog) w 42 ty 3 i Try.underlying42 hi g off L.length cap cur hg a 1 c [.int .i64 p] (by simp [hs]) hnews (by simp [Value.oneCell']) hroom (by rw [hs]; simp; omega)
      rw [hs] at hr
      simp only [Nat.mul_one, List.length_singleton] at hr
      refine ⟨_, _, hr, .inr ⟨g, off, cap, _, by simp, by simpa using hroom, h2, setRow_heap w g cur _ 3 _ hg, ?_, ?_⟩, ⟨rfl, rfl, rfl, by simp, fun k _ hk => setRow_other w g k _ (fun e => hk (by simp [Value.ownBlock, e]))⟩, .inl rfl⟩
      · simp; omega
      · intro j x hx
        have hj : j < L.length + 1 := by have := (List.getElem?_eq_some_iff.1 hx).1; simpa using this
        rw [List.getElem?_toArray]
        by_cases hjl : j < L.length
        · rw [List.getElem?_append_left (by simp; omega), List.getElem?_append_left (by simp; omega), List.getElem?_take, if_pos (by omega), Array.getElem?_toList]
          rw [List.getElem?_append_left hjl] at hx
          exact h4 j x hx
        · obtain rfl : j = L.length := by omega
          rw [List.getElem?_append_left (by simp; omega), List.getElem?_append_right (by simp; omega)]
          simp at hx
          subst hx
          have : off + L.length - (List.take (off + L.length) cur.toList).length = 0 := by simp; omega
          rw [this]; rfl
    · have holds : ∀ j u, (L.map (Value.int .i64))[j]? = some u → w.cell? ((⟨g, off, none⟩ : Addr).add j) = some u := by
        intro j u hu
        rw [List.getElem?_map] at hu
        cases hx : L[j]? with
        | none => rw [hx] at hu; cases hu
        | some x =>
          rw [hx] at hu
          cases hu
          rw [add_off]
          have := h4 j x hx
          simp [World.cell?, hg, this]
      have hr := run_append_grow (P := Try.prog) w 42 ty 3 i (.int .i64 0) Try.underlying42 hi hz ⟨g, off, none⟩ L.length cap (L.map (Value.int .i64)) (by simp [hs]) holds a 1 c [.int .i64 p] (by simp [hs]) hnews (by omega) (by omega) (growslice_fits (by omega) (by rw [hb]; omega))
      have hgr := grown cap (Value.ownBlock (.slice (some ⟨g, off, none⟩) L.length cap)) (by omega)
      exact ⟨_, _, hr, hgr.1, hgr.2, .inr rfl⟩

theorem wpList_line {ops : Array Oper} {rest : List Oper} {o : Oper} {a : Act} {Q : Exit → Act → World → Prop} (w : World) (hgd : o.guard = none) (s x : Operand)
    (ho : o.op = .call { callee := .builtin .append, args := #[s, x], argTypes := #[42, 42] }) (v : Value) (L : List Int) (hs : a.eval s = v) (hL : Line w v L) (ad : Addr) (c : Nat) (p : Int) (hx : a.eval x = .slice (some ad) 1 c) (hc : w.cell? ad = some (.int .i64 p)) (hlen : L.length ≤ 2000000)
    (h : ∀ v' w', Line w' v' (L ++ [p]) → w.grownBy w' v.ownBlock → (v'.ownBlock = v.ownBlock ∨ v'.ownBlock = some w.heap.size) → wpList Try.prog ops Q rest (a.put o.dst v') w') : wpList Try.prog ops Q (o :: rest) a w := by
  refine wpList_plain hgd fun K hK => ?_
  obtain ⟨v', w', hr, h2, h3, h4⟩ := run_append_line w o.type v L hL ad c p hc hlen
  unfold Oper.wp execOp
  simp only [ho, resolve, invoke, builtin, Sem.run_bind, Sem.run_pure, Result.andThen_ok, List.map_toArray, List.map_cons, List.map_nil, hs, hx, hr]
  exact hK _ _ (h v' w' h2 h3 h4)
end
end Go.Proofs.Ytpkldcnkadfhgaa
