/- What Spawn does. -/
import Derived.Test.YtcegmdlmnibheaaBack
import Derived.Test.YtcegmdlmnibheaaFinAny
namespace Go.Proofs.Ytcegmdlmnibheaa
set_option linter.unusedVariables false
set_option linter.unusedSimpArgs false
open Go.RowKit Go.Shelf

attribute [local go_sem] Oper.semAt_some

def scA (L : Lay) : Option Nat → Option Addr
  | none => none
  | some j => some ⟨L.sc j, 0, none⟩
theorem scP_scA (L : Lay) (s : Option Nat) : scP L s = .pointer (scA L s) := by cases s <;> rfl

/-- A link with its position; a scope is there. -/
abbrev Lk (m : Nat) := { x : Nat × Option Nat // ∀ j, x.2 = some j → j < m }
def encK (L : Lay) {m : Nat} (x : Lk m) : Array Value := #[.int .i64 (x.1.1 : Int), .pointer (scA L x.1.2)]
def lks (m : Nat) (op : List (Option Nat)) (h : ∀ j, some j ∈ op → j < m) : List (Lk m) :=
  List.ofFn fun k : Fin op.length => ⟨(op.length - 1 - k.1, op[op.length - 1 - k.1]'(by have := k.2; omega)), fun j e => h j (by rw [← e]; exact List.getElem_mem _)⟩
theorem lks_len {m : Nat} {op : List (Option Nat)} (h : ∀ j, some j ∈ op → j < m) : (lks m op h).length = op.length := by simp [lks]
theorem lks_map {m : Nat} {op : List (Option Nat)} (h : ∀ j, some j ∈ op → j < m) : (lks m op h).map (fun x => x.1.2) = op.reverse := by
  apply List.ext_getElem
  · simp [lks]
  · intro k h1 h2
    simp [lks]
theorem lks_enc (L : Lay) {m : Nat} {op : List (Option Nat)} (h : ∀ j, some j ∈ op → j < m) : BackEnc (encK L) (fun k => scA L ((op[k]?).getD none)) (lks m op h) := by
  intro k x hx
  have hk : k < op.length := by have := (List.getElem?_eq_some_iff.1 hx).1; rwa [lks_len] at this
  have e : (op[op.length - 1 - k]?).getD none = op[op.length - 1 - k]'(by omega) := by rw [List.getElem?_eq_getElem (by omega)]; rfl
  unfold lks at hx
  rw [List.getElem?_ofFn, dif_pos hk] at hx
  cases hx
  rw [lks_len]
  simp only [encK, e]
theorem inner_rev : ∀ l : List (Option Nat), Tr.inner l = l.reverse.findSome? id
  | [] => rfl
  | s :: r => by
    rw [List.reverse_cons, List.findSome?_append, ← inner_rev r]
    show (match Tr.inner r with | some j => some j | none => s) = _
    generalize Tr.inner r = z
    cases z with
    | some j => rfl
    | none => cases s <;> rfl
theorem inner_of_prefix {l a : List (Option Nat)} {j : Nat} (hp : a ++ [some j] <+: l.reverse) (ha : ∀ y ∈ a, y = none) : Tr.inner l = some j := by
  obtain ⟨r, hr⟩ := hp
  rw [inner_rev, ← hr, List.findSome?_append, List.findSome?_append]
  have : a.findSome? id = none := List.findSome?_eq_none_iff.2 fun y hy => ha y hy
  rw [this]; rfl
theorem inner_of_none {l : List (Option Nat)} (ha : ∀ y ∈ l.reverse, y = none) : Tr.inner l = none := by
  rw [inner_rev]; exact List.findSome?_eq_none_iff.2 fun y hy => ha y hy

section
variable {w : World} {own : Own} {tb : Nat} {L : Lay} {t : Tr.T}
theorem set2_rep {W3 : World} {o : Own} {M : Lay} {u : Tr.T} (hR : Rep W3 o tb M u) {a b : Nat} (ha : o a = none) (hb : o b = none) (x y : Value) : Rep ((W3.setCell ⟨a, 0, none⟩ x).setCell ⟨b, 0, none⟩ y) o tb M u :=
  hR.fr (S := fun k => k = a ∨ k = b) (Fr.set (Fr.set (Fr.refl (fun k => k = a ∨ k = b) W3) (.inl (.inl rfl)) 0 x) (.inl (.inr rfl)) 0 y) (fun k hk => by rcases hk with rfl | rfl <;> assumption)
theorem set2_gone {W W3 : World} {u : Tr.T} (hB : Below w.heap.size w W) (hG : Gone W own tb u W3) {a b : Nat} (ha : own a = none) (hb : own b = none) (ha1 : w.heap.size ≤ a) (hb1 : w.heap.size ≤ b) (ha2 : a < W.heap.size) (hb2 : b < W.heap.size) (x y : Value) :
    Gone w own tb u ((W3.setCell ⟨a, 0, none⟩ x).setCell ⟨b, 0, none⟩ y) := by
  obtain ⟨o, M, hR, hk, hF⟩ := hG
  exact ⟨o, M, set2_rep hR ((hk a ha2).trans ha) ((hk b hb2).trans hb) x y, fun k h => hk k (Nat.lt_of_lt_of_le h hB.size), Fr.set (Fr.set ((Fr.of_below hB).thenL hF fun k h => .inl h) (.inr ha1) 0 x) (.inr hb1) 0 y⟩
theorem set2_cells {W : World} {a b : Nat} {x y x' y' : Value} (ha : Blk W a [x]) (hb : Blk W b [y]) (hab : a ≠ b) : Blk ((W.setCell ⟨a, 0, none⟩ x').setCell ⟨b, 0, none⟩ y') a [x'] ∧ Blk ((W.setCell ⟨a, 0, none⟩ x').setCell ⟨b, 0, none⟩ y') b [y'] :=
  ⟨(ha.set (o := 0) (by simp) x').set_other hab y', (hb.set_other hab.symm x').set (o := 0) (by simp) y'⟩
theorem tn_put {W : World} {B D : Nat} {o : Obj} (hK : W.heap[D]? = some o) (ho : o.isCells = false) (hD : B ≤ D) (hB : B ≤ W.heap.size) (o' : Obj) : Tn B W (W.putObj D o') :=
  (Tn.refl B W).grown (grownBy_putObj' W D o') (fun r e => by cases e; exact ⟨hD, o, hK, ho⟩) hB
def spawned (t : Tr.T) (x : Tr.Tk) : Tr.T × Int × Int := match Tr.inner x.op with | none => (t, 0, 22) | some j => Tr.add t (some j)
/-- The round that has found a scope. -/
def spX (w : World) (own : Own) (tb : Nat) (t : Tr.T) (m : Nat) (c : Code) (pre : List (Lk m)) (W : World) : Prop :=
  c = .ret ∧ ∃ (pre0 : List (Lk m)) (y : Lk m) (j : Nat), pre = pre0 ++ [y] ∧ (∀ z ∈ pre0, z.1.2 = none) ∧ y.1.2 = some j ∧ ∃ W0, (Gone w own tb (Tr.add t (some j)).1 W0 ∧ Blk W0 (w.heap.size + 1) [.int .i64 (Tr.add t (some j)).2.1] ∧ Blk W0 (w.heap.size + 1 + 1) [.int .i64 (Tr.add t (some j)).2.2]) ∧ Tn w.heap.size W0 W
theorem spX_own {m : Nat} {c : Code} {B : Nat} (hB : w.heap.size ≤ B) : OwnFrom B (spX w own tb t m c) := by
  intro s W W' row ⟨hc, pre0, y, j, h1, h2, h3, W0, h4, h5⟩ hg hr
  exact ⟨hc, pre0, y, j, h1, h2, h3, W0, h4, h5.grown hg (fun r e => ⟨by have := (hr r e).1; omega, (hr r e).2⟩) (by obtain ⟨⟨_, _, _, _, hF⟩, _⟩ := h4; exact hF.size)⟩
def spI (w4 : World) (m : Nat) (pre : List (Lk m)) (W : World) : Prop := (∀ y ∈ pre, y.1.2 = none) ∧ Below w4.heap.size w4 W
theorem spI_own {w4 : World} {m : Nat} : OwnFrom w4.heap.size (spI w4 m) := by
  intro s W W' row ⟨h1, h2⟩ hg hr
  exact ⟨h1, ownFrom_below (β := List (Lk m)) (Nat.le_refl _) (Nat.le_refl _) s W W' row h2 hg hr⟩
set_option maxRecDepth 100000 in
set_option maxHeartbeats 8000000 in
theorem spawn_in (h : Rep w own tb L t) (hl : Lim t) {i : Nat} {x : Tr.Tk} (hx : t.ts[i]? = some x) (hd : x.done = false) (hv : x.leav = false) :
    CallsIn Fence.wide 4 Try.prog 17 #[ptr tb, .int .i64 ((i : Int) + 1)] w (goneII w own tb (spawned t x)) := by
  have h1 : 1 ≤ 4 := by omega
  have hr := h.rng.op i x
  have A : Hid (∀ W, Below w.heap.size w W → Calls Try.prog 53 #[ptr tb, .int .i64 ((i : Int) + 1)] W (same W (.tuple #[tkP L i, .int .i64 0]))) := Lib.hid fun W hW => acting_ok (h.below hW) hx hd hv
  unfold same tkP at A
  have HH := Lib.hid h
  have HX := Lib.hid hx
  have HLI := Lib.hid hl
  obtain ⟨p, cap, e, hc1, hc2, hc3⟩ := (h.tk i x hx).form
  have c5 := (h.tk i x hx).blk.cell 5 _ rfl
  rw [e] at c5
  have hlt := (h.tk i x hx).blk.lt
  have hop := hl.op hx
  have HF := Lib.hid hc3
  have HR : Hid (∀ j, some j ∈ x.op → j < t.ss.length) := Lib.hid fun j => hr j hx
  obtain ⟨m, hm⟩ : ∃ m, m = x.op.length := ⟨_, rfl⟩
  have HM := Lib.hid hm
  rw [← hm] at c5 hop hc1
  clear h hx hl hd hv e hr hc3 hm
  refine callsIn_of_wp_marks Try.func17 rfl trivial ?_ rfl
  simp only [Try.ntmps17, List.size_toArray, List.length_cons, List.length_nil, Nat.reduceAdd, Nat.reduceSub, Array.replicate_succ, Array.replicate_zero, List.push_toArray, List.append_toArray, List.nil_append, List.cons_append]
  gi_wp2_with fail
  refine ⟨trivial, (callsIn_wide.2 (A.out _ (((one _ _).alloc (by simp) _).alloc (by simp; omega) _))).mono ?_⟩
  rintro e w2 ⟨rfl, rfl⟩
  have hB3 : Below w.heap.size w (((w.alloc (.cells #[ptr tb] 23)).alloc (.cells #[.int .i64 0] 3)).alloc (.cells #[.int .i64 0] 24)) := ((one _ _).alloc (by simp) _).alloc (by simp; omega) _
  have HB3 := Lib.hid hB3
  have hc5 := cell_of hB3 c5
  have hl5 : L.tk i < (((w.alloc (.cells #[ptr tb] 23)).alloc (.cells #[.int .i64 0] 3)).alloc (.cells #[.int .i64 0] 24)).heap.size := by simp; omega
  have q0 := (((Blk.new w #[ptr tb] 23).alloc (.cells #[.int .i64 0] 3)).alloc (.cells #[.int .i64 0] 24))
  have q1 := ((Blk.new (w.alloc (.cells #[ptr tb] 23)) #[.int .i64 0] 3).alloc (.cells #[.int .i64 0] 24))
  have q2 := (Blk.new ((w.alloc (.cells #[ptr tb] 23)).alloc (.cells #[.int .i64 0] 3)) #[.int .i64 0] 24)
  simp only [World.size_alloc] at q1 q2
  have Q0 := Lib.hid q0; have Q1 := Lib.hid q1; have Q2 := Lib.hid q2
  have hsz3 : (((w.alloc (.cells #[ptr tb] 23)).alloc (.cells #[.int .i64 0] 3)).alloc (.cells #[.int .i64 0] 24)).heap.size = w.heap.size + 3 := by simp
  have HS3 := Lib.hid hsz3
  clear q0 q1 q2 hsz3 hB3
  generalize ((w.alloc (.cells #[ptr tb] 23)).alloc (.cells #[.int .i64 0] 3)).alloc (.cells #[.int .i64 0] 24) = w3 at *
  gi_wp2_with fail
  refine ⟨trivial, (back_in Fence.wide 3 trivial rfl p m cap w3).mono ?_⟩
  rintro e w4 ⟨rfl, hw4⟩
  have hb4 : Below w3.heap.size w3 w4 := by rw [hw4]; exact one _ _
  have hbx : Blk w4 w3.heap.size [.slice p m cap] := by rw [hw4]; exact Blk.new w3 #[.slice p m cap] 86
  have hs4 : w4.heap.size = w.heap.size + 4 := by rw [hw4]; simp [HS3.out]
  have HB4 : Hid (Below w.heap.size w w4) := Lib.hid (HB3.out.trans (hb4.mono HB3.out.size))
  have Q0 := Lib.hid (Q0.out.below hb4 Q0.out.lt)
  have Q1 := Lib.hid (Q1.out.below hb4 Q1.out.lt)
  have Q2 := Lib.hid (Q2.out.below hb4 Q2.out.lt)
  rw [HS3.out] at hbx
  have QB := Lib.hid hbx
  have e3 := HS3.out
  have HS4 := Lib.hid hs4
  have hpt : PtrsAt w4.heap.size w4 p (lks t.ss.length x.op HR.out).length (fun k => scA L ((x.op[k]?).getD none)) := by
    intro k hk
    rw [lks_len] at hk
    obtain ⟨g, rfl, hg, hcs⟩ := HF.out (by omega)
    refine ⟨g, 0, rfl, by have := HB4.out.size; omega, ?_⟩
    have := cell_of HB4.out (hcs k _ (List.getElem?_eq_getElem hk))
    rw [scP_scA] at this
    show w4.cell? _ = some (.pointer (scA L ((x.op[k]?).getD none)))
    rw [List.getElem?_eq_getElem hk, Nat.zero_add]
    exact this
  have hlen : (lks t.ss.length x.op HR.out).length = m := by rw [lks_len, HM.out]
  have hcb := hbx.cell 0 _ rfl
  rw [← hlen] at hcb
  have hsto := back_stops (encK L) Fence.wide 3 trivial rfl (by omega) (w.heap.size + 3) w4.heap.size (lks t.ss.length x.op HR.out) _ (lks_enc L HR.out) p cap (by rw [hlen]; omega) w4 (by omega) (by omega) (Nat.le_refl _) hcb hpt
  have HSTO := Lib.hid hsto
  have HLEN := Lib.hid hlen
  clear hw4 hb4 hbx hs4 hpt hlen hcb hsto
  gi_wp2_with fail
  refine wpIn_rangeFunc_ownF (F := Fence.wide) (n := 4) rfl h1 (gf := 93) (lb := #[.pointer (some ⟨w.heap.size + 3, 0, none⟩)]) rfl trivial (enters_of Try.func93 (by kernel_rfl) rfl) HSTO.out belowK_t (belowK_b (Nat.le_refl _)) (Below.refl _ _) (fun _ => by rfl)
    (spI w4 t.ss.length) (spX w own tb t t.ss.length) spI_own (fun c => spX_own HB4.out.size)
    ⟨by simp, Below.refl _ _⟩
    (fun y => { tmps := #[ptr tb, .int .i64 ((i : Int) + 1), .pointer (some ⟨w.heap.size, 0, none⟩), undef, .pointer (some ⟨w.heap.size + 1, 0, none⟩), .pointer (some ⟨w.heap.size + 1 + 1, 0, none⟩), ptr (L.tk i), .int .i64 0, undef, .pointer (scA L y.1.2), .tuple #[ptr (L.tk i), .int .i64 0], ptr tb, .int .i64 ((i : Int) + 1), .tuple #[ptr (L.tk i), .int .i64 0], ptr (L.tk i), .int .i64 0, .int .i64 0, .bool false, undef, ptr (L.tk i), .pointer (some ⟨L.tk i, 0, none⟩), .pointer (some ⟨L.tk i, 5, none⟩), .slice p m cap, .func (.func 93) #[] #[.pointer (some ⟨w.heap.size + 3, 0, none⟩)], .int .i64 (y.1.1 : Int), .pointer (scA L y.1.2), undef, undef, undef, undef, undef, undef, undef], defers := [] }) ?assign ?body ?done ?stop
  case assign =>
    intro l y W K hK
    unfold encK
    gi_wp2
    exact hK
  case body =>
    rintro l pre y W ⟨hpre, hB⟩ _
    have hB0 : Below w.heap.size w W := HB4.out.trans (hB.mono HB4.out.size)
    have b0 := Q0.out.below hB Q0.out.lt
    have b1 := Q1.out.below hB Q1.out.lt
    have b2 := Q2.out.below hB Q2.out.lt
    have c0 := b0.cell 0 _ rfl
    obtain ⟨⟨ix, s⟩, hs⟩ := y
    cases s with
    | none =>
      dsimp only [scA]
      gi_wp2
      exact ⟨KeepsOthers.refl _, Below.refl _ _, fun z hz => (List.mem_append.1 hz).elim (hpre z) (fun e => by simp at e; subst e; rfl), hB⟩
    | some j =>
      dsimp only [scA]
      have hj := hs j rfl
      have AD := Lib.hid (add_pub (HH.out.below hB0) HLI.out (some j) (fun k e => by cases e; exact hj))
      unfold goneII scP at AD
      have on1 := HH.out.not_own (k := w.heap.size + 1) (by omega)
      have on2 := HH.out.not_own (k := w.heap.size + 1 + 1) (by omega)
      have B1 := Lib.hid b1; have B2 := Lib.hid b2; have HB0 := Lib.hid hB0
      have ON := Lib.hid (And.intro on1 on2)
      have HPR := Lib.hid hpre
      clear b0 b1 b2 on1 on2 hB0 hpre hB
      gi_wp2_with fail
      refine ⟨trivial, (CallsIn.inRound l (callsIn_wide.2 AD.out)).mono ?_⟩
      rintro e W3 ⟨rfl, hG⟩
      have b1 : Blk W3 (w.heap.size + 1) [.int .i64 0] := by
        obtain ⟨o, M, hR, hk, hF⟩ := hG
        exact B1.out.fr hF (fun h => h ON.out.1)
      have b2 : Blk W3 (w.heap.size + 1 + 1) [.int .i64 0] := by
        obtain ⟨o, M, hR, hk, hF⟩ := hG
        exact B2.out.fr hF (fun h => h ON.out.2)
      have d1 := b1.cell 0 _ rfl
      have d2 := b2.cell 0 _ rfl
      have z1 := b1.fz 0
      have z2 := b2.fz 0
      have HGG := Lib.hid (set2_gone HB0.out hG ON.out.1 ON.out.2 (by omega) (by omega) B1.out.lt B2.out.lt (.int .i64 (Tr.add t (some j)).2.1) (.int .i64 (Tr.add t (some j)).2.2))
      have HCC := Lib.hid (set2_cells (x' := .int .i64 (Tr.add t (some j)).2.1) (y' := .int .i64 (Tr.add t (some j)).2.2) b1 b2 (by omega))
      have HKO : Hid (KeepsOthers W W3) := Lib.hid (by obtain ⟨o, M, hR, hk, hF⟩ := hG; exact ⟨hF.size, hF.oth⟩)
      clear b1 b2 hG AD
      gi_wp2
      exact ⟨HKO.out.trans ((KeepsOthers.setCell _ _ _).trans (KeepsOthers.setCell _ _ _)), rfl, pre, _, j, rfl, HPR.out, rfl, _, ⟨HGG.out, HCC.out⟩, Tn.refl _ _⟩
  case done =>
    rintro D ys W hD rfl ⟨hno, hB⟩ hK
    have hB0 : Below w.heap.size w W := HB4.out.trans (hB.mono HB4.out.size)
    have b1 := Q1.out.below hB Q1.out.lt
    have b2 := Q2.out.below hB Q2.out.lt
    have c1 := b1.cell 0 _ rfl
    have c2 := b2.cell 0 _ rfl
    have z1 := b1.fz 0
    have z2 := b2.fz 0
    have B1 := Lib.hid b1; have B2 := Lib.hid b2; have HB0 := Lib.hid hB0
    have HI : Hid (Tr.inner x.op = none) := Lib.hid (inner_of_none fun y hy => by
      rw [← lks_map HR.out] at hy
      obtain ⟨z, hz, rfl⟩ := List.mem_map.1 hy
      exact hno z hz)
    have HKd := Lib.hid hK
    clear b1 b2 hno hB0 hK hB
    gi_wp2_with fail
    have hK' := ((KeepsOthers.setCell W ⟨w.heap.size + 1, 0, none⟩ (.int .i64 0)).trans (KeepsOthers.setCell (W.setCell ⟨w.heap.size + 1, 0, none⟩ (.int .i64 0)) ⟨w.heap.size + 1 + 1, 0, none⟩ (.int .i64 22))).same D _ HKd.out rfl
    have on1 := HH.out.not_own (k := w.heap.size + 1) (by omega)
    have on2 := HH.out.not_own (k := w.heap.size + 1 + 1) (by omega)
    have hG : Gone w own tb t ((W.setCell ⟨w.heap.size + 1, 0, none⟩ (.int .i64 0)).setCell ⟨w.heap.size + 1 + 1, 0, none⟩ (.int .i64 22)) :=
      set2_gone (W := W) HB0.out (HH.out.below HB0.out).gone on1 on2 (by omega) (by omega) B1.out.lt B2.out.lt _ _
    obtain ⟨e1, e2⟩ := set2_cells (x' := .int .i64 0) (y' := .int .i64 22) B1.out B2.out (by omega)
    have hT := tn_put (B := w.heap.size) hK' rfl (by have := HS4.out; omega) (by obtain ⟨_, _, _, _, hF⟩ := hG; exact hF.size) (.deferred none)
    refine ⟨by simp, .inl ⟨_, _, rfl, run_takeDeferred hK', ?_⟩⟩
    have r1 := (e1.tn hT).cell 0 _ rfl
    have r2 := (e2.tn hT).cell 0 _ rfl
    refine ⟨.tuple #[.int .i64 0, .int .i64 22], by simp [results, Try.f17, go_sem, r1, r2], ?_⟩
    have es : spawned t x = (t, 0, 22) := by unfold spawned; rw [HI.out]
    rw [es]
    exact ⟨rfl, (GoneT.gone ⟨_, hG, hT⟩)⟩
  case stop =>
    rintro D c pre W hD hpre ⟨rfl, pre0, y, j, hp0, hno, hyj, W0, ⟨hG, hb1, hb2⟩, hT⟩ hK
    have HI : Hid (Tr.inner x.op = some j) := Lib.hid (by
      obtain ⟨r, hr⟩ := hpre
      refine inner_of_prefix (a := pre0.map fun x => x.1.2) ⟨r.map fun x => x.1.2, ?_⟩ fun z hz => ?_
      · rw [← lks_map HR.out, ← hr, hp0]; simp [hyj]
      · obtain ⟨q, hq, rfl⟩ := List.mem_map.1 hz; exact hno q hq)
    gi_wp2_with fail
    have hsz : w.heap.size ≤ W.heap.size := by obtain ⟨_, _, _, _, hF⟩ := hG; exact Nat.le_trans hF.size hT.size
    have hT2 := hT.grown (grownBy_putObj' W D (.deferred none)) (fun r e => by cases e; exact ⟨by have := HS4.out; omega, _, hK, rfl⟩) (by obtain ⟨_, _, _, _, hF⟩ := hG; exact hF.size)
    refine ⟨by simp, .inl ⟨_, _, rfl, run_takeDeferred hK, ?_⟩⟩
    have r1 := (hb1.tn hT2).cell 0 _ rfl
    have r2 := (hb2.tn hT2).cell 0 _ rfl
    refine ⟨.tuple #[.int .i64 (Tr.add t (some j)).2.1, .int .i64 (Tr.add t (some j)).2.2], by simp [results, Try.f17, go_sem, r1, r2], ?_⟩
    have es : spawned t x = Tr.add t (some j) := by unfold spawned; rw [HI.out]
    rw [es]
    exact ⟨rfl, (GoneT.gone ⟨_, hG, hT2⟩)⟩

set_option maxRecDepth 100000 in
set_option maxHeartbeats 4000000 in
theorem spawn_any (h : Rep w own tb L t) (hl : Lim t) (n : Int) : Calls Try.prog 17 #[ptr tb, .int .i64 n] w (goneII w own tb (Tr.spawn t n)) := by
  unfold Tr.spawn
  by_cases hac : Tr.ac t n ≠ 0
  · rw [if_pos hac]
    unfold goneII
    have A : Hid (∀ W, Below w.heap.size w W → Calls Try.prog 53 #[ptr tb, .int .i64 n] W (same W (.tuple #[.pointer none, .int .i64 (Tr.ac t n)]))) := Lib.hid fun W hW => acting_no (h.below hW) hac
    have HG : Hid (∀ W, Below w.heap.size w W → Gone w own tb t W) := Lib.hid fun W hW => h.goneB hW
    unfold same at A
    have hne : (Tr.ac t n != 0) = true := by simpa using hac
    generalize Tr.ac t n = c at *
    clear h hl hac
    go_enter Try.func17, Try.ntmps17
    go_wp2_with fail
    refine (A.out _ (((one _ _).alloc (by simp) _).alloc (by simp; omega) _)).mono ?_
    rintro e w2 ⟨rfl, rfl⟩
    go_wp2
    refine bodyPost_ret (v := .tuple #[.int .i64 0, .int .i64 c]) (by simp [results, Try.results17, go_sem]) rfl ⟨rfl, HG.out _ (((one _ _).alloc (by simp) _).alloc (by simp; omega) _)⟩
  · rw [if_neg hac]
    obtain ⟨i, x, rfl, hx, hd, hv, htk⟩ := ac_zero hac
    simp only [htk]
    exact (callsIn_wide (n := 4)).1 (spawn_in h hl hx hd hv)
end
end Go.Proofs.Ytcegmdlmnibheaa
