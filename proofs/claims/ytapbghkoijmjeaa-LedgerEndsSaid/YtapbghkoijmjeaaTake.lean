/- What take does: the last one that fits is taken out of a task's hand. -/
import Derived.Test.YtapbghkoijmjeaaBridge
namespace Go.Proofs.Ytapbghkoijmjeaa
set_option linter.unusedVariables false
set_option linter.unusedSimpArgs false
open Go.RowKit Go.Shelf

attribute [local go_sem] Oper.semAt_some

/-- A position of a list, and what is there. -/
abbrev Pl (l : List Nat) := { x : Nat × Nat // l[x.1]? = some x.2 }
def encP {l : List Nat} (x : Pl l) : Array Value := #[.int .i64 (x.1.1 : Int), .int .i64 (x.1.2 : Int)]
def pls (l : List Nat) : List (Pl l) := List.ofFn fun k : Fin l.length => ⟨(l.length - 1 - k.1, l[l.length - 1 - k.1]'(by have := k.2; omega)), List.getElem?_eq_getElem _⟩
theorem pls_len (l : List Nat) : (pls l).length = l.length := by simp [pls]
theorem pls_at (l : List Nat) {k : Nat} {x : Pl l} (h : (pls l)[k]? = some x) : k < l.length ∧ x.1.1 = l.length - 1 - k := by
  have hk : k < l.length := by have := (List.getElem?_eq_some_iff.1 h).1; rwa [pls_len] at this
  unfold pls at h
  rw [List.getElem?_ofFn, dif_pos hk] at h
  cases h
  exact ⟨hk, rfl⟩
theorem pls_enc (l : List Nat) : BackEnc encP (fun k => ((l.getD k 0 : Nat) : Int)) (pls l) := by
  intro k x hx
  obtain ⟨hk, e⟩ := pls_at l hx
  have h2 := x.2
  rw [e] at h2
  rw [pls_len]
  simp only [encP, e, List.getD_eq_getElem?_getD, h2, Option.getD_some]
theorem lastAt_some {p : Nat → Bool} : ∀ {l : List Nat} {i a : Nat}, l[i]? = some a → p a = true → (∀ j b, i < j → l[j]? = some b → p b = false) → Ld.lastAt p l = some i
  | [], i, a, h, _, _ => by simp at h
  | x :: l, 0, a, h, hp, hn => by
    have e : x = a := by simpa using h
    subst e
    have : Ld.lastAt p l = none := by
      have key : ∀ r : List Nat, (∀ b ∈ r, p b = false) → Ld.lastAt p r = none := by
        intro r
        induction r with
        | nil => intro _; rfl
        | cons y r ih =>
          intro hr
          unfold Ld.lastAt
          rw [ih fun b hb => hr b (by simp [hb]), if_neg (by rw [hr y (by simp)]; simp)]
      refine key l fun b hb => ?_
      obtain ⟨j, hj, rfl⟩ := List.mem_iff_getElem.1 hb
      exact hn (j + 1) _ (by omega) (by simp [hj])
    unfold Ld.lastAt
    rw [this, if_pos hp]
  | x :: l, i + 1, a, h, hp, hn => by
    have := lastAt_some (l := l) (i := i) (by simpa using h) hp (fun j b hj hb => hn (j + 1) b (by omega) (by simpa using hb))
    unfold Ld.lastAt
    rw [this]
theorem lastAt_none {p : Nat → Bool} : ∀ {l : List Nat}, (∀ b ∈ l, p b = false) → Ld.lastAt p l = none
  | [], _ => rfl
  | x :: l, h => by
    unfold Ld.lastAt
    rw [lastAt_none fun b hb => h b (by simp [hb]), if_neg (by rw [h x (by simp)]; simp)]
theorem lastAt_pre {p : Nat → Bool} {l : List Nat} {pre0 : List (Pl l)} {y : Pl l} (hp : pre0 ++ [y] <+: pls l) (hn : ∀ z ∈ pre0, p z.1.2 = false) (hy : p y.1.2 = true) : Ld.lastAt p l = some y.1.1 := by
  obtain ⟨r, hr⟩ := hp
  have hye : (pls l)[pre0.length]? = some y := by rw [← hr]; simp
  obtain ⟨hk, e⟩ := pls_at l hye
  refine lastAt_some y.2 hy fun j b hj hb => ?_
  have hjl : j < l.length := (List.getElem?_eq_some_iff.1 hb).1
  have hz : (pls l)[l.length - 1 - j]? = some (pre0[l.length - 1 - j]'(by omega)) := by
    rw [← hr, List.append_assoc, List.getElem?_append_left (by omega), List.getElem?_eq_getElem (by omega)]
  obtain ⟨_, e2⟩ := pls_at l hz
  have h2 := (pre0[l.length - 1 - j]'(by omega)).2
  rw [e2, show l.length - 1 - (l.length - 1 - j) = j by omega, hb] at h2
  have := hn _ (List.getElem_mem (l := pre0) (n := l.length - 1 - j) (by omega))
  rw [← Option.some.inj h2] at this
  exact this
theorem lastAt_all {p : Nat → Bool} {l : List Nat} (hn : ∀ z ∈ pls l, p z.1.2 = false) : Ld.lastAt p l = none := by
  refine lastAt_none fun b hb => ?_
  obtain ⟨j, hj, rfl⟩ := List.mem_iff_getElem.1 hb
  have hz : (pls l)[l.length - 1 - j]? = some ((pls l)[l.length - 1 - j]'(by rw [pls_len]; omega)) := List.getElem?_eq_getElem _
  obtain ⟨_, e2⟩ := pls_at l hz
  have h2 := ((pls l)[l.length - 1 - j]'(by rw [pls_len]; omega)).2
  rw [e2, show l.length - 1 - (l.length - 1 - j) = j by omega, List.getElem?_eq_getElem hj] at h2
  rw [Option.some.inj h2]
  exact hn _ (List.getElem_mem _)

section
variable {w : World} {own : Own} {lb : Nat} {L : Lay} {t : Ld.T}
theorem Rep.goneB (h : Rep w own lb L t) {W : World} (hb : Below w.heap.size w W) : Gone w own lb t W := h.gone.below hb
theorem del_rep {W W3 : World} (h : Rep W own lb L t) {k : Nat} (hk : k < 65) {l : List Nat} {g n n' cap : Nat} (hv : L.hv k = .slice (some ⟨g, 0, none⟩) n cap) (hF : Fr (fun x => x = g) W W3) (hrow : W3.ownsRow 0 3 1 (.slice (some ⟨g, 0, none⟩) n' cap) l.length (l.map natV)) :
    Gone W own lb (Ld.setH t k l) (W3.setCell ⟨lb, 2 + k, none⟩ (.slice (some ⟨g, 0, none⟩) n' cap)) := by
  have og : own g = some (.hand k) := h.hvo k g hk (by rw [hv]; rfl)
  have hgl : g ≠ lb := fun e => by rw [e, h.mine] at og; simp at og
  have hF2 : Fr (fun b => b = lb ∨ (L.hv k).ownBlock = some b) W (W3.setCell ⟨lb, 2 + k, none⟩ (.slice (some ⟨g, 0, none⟩) n' cap)) := Fr.set (hF.widen fun x hx _ => .inr (by rw [hv, hx]; rfl)) (.inl (.inl rfl)) _ _
  have hB := (h.blk.fr hF (Ne.symm hgl)).set (o := 2 + k) (by rw [ldC_len]; omega) (.slice (some ⟨g, 0, none⟩) n' cap)
  rw [ldC_setH L t hk _ l] at hB
  have hR := h.turnH (l := l) hk hF2 hB (.inr (.inl (by rw [hv]; rfl))) (owns_fr hrow (Fr.set (Fr.refl (fun b => b = lb) W3) (.inl rfl) (2 + k) _) fun b e e' => by
    have e2 : g = b := by simpa [Value.ownBlock] using e
    exact hgl (e2.trans e'))
  refine ⟨_, _, hR, fun b hb => ?_, hF2.widen fun b hb _ => ?_⟩
  · unfold put
    split
    · rename_i e
      have e2 : g = b := by simpa [Value.ownBlock] using e
      rw [← e2, og]
    · rfl
  · rcases hb with rfl | hb
    · rw [h.mine]; simp
    · rw [h.hvo k b hk hb]; simp
theorem set3_gone {W W3 : World} {u : Ld.T} (hB : Below w.heap.size w W) (hG : Gone W own lb u W3) (hn : ∀ x, w.heap.size ≤ x → own x = none) {a b c : Nat} (ha : w.heap.size ≤ a) (hb : w.heap.size ≤ b) (hc : w.heap.size ≤ c) (ha2 : a < W.heap.size) (hb2 : b < W.heap.size) (hc2 : c < W.heap.size) (x y z : Value) :
    Gone w own lb u (((W3.setCell ⟨a, 0, none⟩ x).setCell ⟨b, 0, none⟩ y).setCell ⟨c, 0, none⟩ z) := by
  obtain ⟨o, M, hR, hk, hF⟩ := hG
  have hF3 : Fr (fun q => q = a ∨ q = b ∨ q = c) W3 (((W3.setCell ⟨a, 0, none⟩ x).setCell ⟨b, 0, none⟩ y).setCell ⟨c, 0, none⟩ z) :=
    Fr.set (Fr.set (Fr.set (Fr.refl (fun q => q = a ∨ q = b ∨ q = c) W3) (.inl (.inl rfl)) 0 x) (.inl (.inr (.inl rfl))) 0 y) (.inl (.inr (.inr rfl))) 0 z
  refine ⟨o, M, hR.fr hF3 fun q hq => ?_, fun q hq => hk q (Nat.lt_of_lt_of_le hq hB.size), ((Fr.of_below hB).thenL hF fun q h => .inl h).thenL hF3 fun q hq => ?_⟩
  · rcases hq with rfl | rfl | rfl
    · exact (hk _ ha2).trans (hn _ ha)
    · exact (hk _ hb2).trans (hn _ hb)
    · exact (hk _ hc2).trans (hn _ hc)
  · rcases hq with rfl | rfl | rfl <;> exact .inr (by assumption)
def takePost (w : World) (own : Own) (lb : Nat) (t : Ld.T) (k : Nat) (p : Nat → Bool) (e : Ending) (w' : World) : Prop :=
  match Ld.lastAt p (t.hs k) with
  | none => e = .returned (.tuple #[.int .i64 0, .int .i64 0, .bool false]) ∧ Gone w own lb t w'
  | some i => e = .returned (.tuple #[.int .i64 (((t.hs k).getD i 0 : Nat) : Int), .int .i64 (((t.hs k).length - 1 - i : Nat) : Int), .bool true]) ∧ Gone w own lb (Ld.setH t k ((t.hs k).eraseIdx i)) w'
theorem tn_put {W : World} {B D : Nat} {o : Obj} (hK : W.heap[D]? = some o) (ho : o.isCells = false) (hD : B ≤ D) (hB : B ≤ W.heap.size) (o' : Obj) : Tn B W (W.putObj D o') :=
  (Tn.refl B W).grown (grownBy_putObj' W D o') (fun r e => by cases e; exact ⟨hD, o, hK, ho⟩) hB
theorem set3_cells {W : World} {a b c : Nat} {x y z x' y' z' : Value} (ha : Blk W a [x]) (hb : Blk W b [y]) (hc : Blk W c [z]) (hab : a ≠ b) (hac : a ≠ c) (hbc : b ≠ c) :
    Blk (((W.setCell ⟨a, 0, none⟩ x').setCell ⟨b, 0, none⟩ y').setCell ⟨c, 0, none⟩ z') a [x'] ∧ Blk (((W.setCell ⟨a, 0, none⟩ x').setCell ⟨b, 0, none⟩ y').setCell ⟨c, 0, none⟩ z') b [y'] ∧ Blk (((W.setCell ⟨a, 0, none⟩ x').setCell ⟨b, 0, none⟩ y').setCell ⟨c, 0, none⟩ z') c [z'] :=
  ⟨((ha.set (o := 0) (by simp) x').set_other hab y').set_other hac z', ((hb.set_other hab.symm x').set (o := 0) (by simp) y').set_other hbc z', ((hc.set_other hac.symm x').set_other hbc.symm y').set (o := 0) (by simp) z'⟩
/-- The rounds that have found none; the round that has found one. -/
def tkI (w6 : World) (p : Nat → Bool) (l : List Nat) (pre : List (Pl l)) (W : World) : Prop := (∀ z ∈ pre, p z.1.2 = false) ∧ Below w6.heap.size w6 W
theorem tkI_own {w6 : World} {p : Nat → Bool} {l : List Nat} : OwnFrom w6.heap.size (tkI w6 p l) := by
  intro s W W' row ⟨h1, h2⟩ hg hr
  exact ⟨h1, ownFrom_below (β := List (Pl l)) (Nat.le_refl _) (Nat.le_refl _) s W W' row h2 hg hr⟩
def tkX (w : World) (own : Own) (lb : Nat) (t : Ld.T) (k : Nat) (p : Nat → Bool) (c : Code) (pre : List (Pl (t.hs k))) (W : World) : Prop :=
  c = .ret ∧ ∃ (pre0 : List (Pl (t.hs k))) (y : Pl (t.hs k)), pre = pre0 ++ [y] ∧ (∀ z ∈ pre0, p z.1.2 = false) ∧ p y.1.2 = true ∧ ∃ W0, (Gone w own lb (Ld.setH t k ((t.hs k).eraseIdx y.1.1)) W0 ∧
    Blk W0 (w.heap.size + 1 + 1) [.int .i64 (y.1.2 : Int)] ∧ Blk W0 (w.heap.size + 1 + 1 + 1) [.int .i64 (((t.hs k).length - 1 - y.1.1 : Nat) : Int)] ∧ Blk W0 (w.heap.size + 1 + 1 + 1 + 1) [.bool true]) ∧ Tn w.heap.size W0 W
theorem tkX_own {k : Nat} {p : Nat → Bool} {c : Code} {B : Nat} (hB : w.heap.size ≤ B) : OwnFrom B (tkX w own lb t k p c) := by
  intro s W W' row ⟨hc, pre0, y, h1, h2, h3, W0, h4, h5⟩ hg hr
  exact ⟨hc, pre0, y, h1, h2, h3, W0, h4, h5.grown hg (fun r e => ⟨by have := (hr r e).1; omega, (hr r e).2⟩) (by obtain ⟨⟨_, _, _, _, hF⟩, _⟩ := h4; exact hF.size)⟩
set_option maxRecDepth 100000 in
set_option maxHeartbeats 8000000 in
theorem take_in (f : Nat) (lbv : Array Value) (heg : ∀ args w, (callFunc f args).run Try.prog w = .ok (.enter f args) w) (h : Rep w own lb L t) {k : Nat} (hk : k < 65) (hlen : (t.hs k).length ≤ 1000) (p : Nat → Bool)
    (hf : ∀ W, Below w.heap.size w W → ∀ a ∈ t.hs k, Calls Try.prog f (#[.int .i64 (a : Int)] ++ lbv) W (still W (.bool (p a)))) :
    CallsIn Fence.wide 4 Try.prog 44 #[ptrH lb k, .func (.func f) #[] lbv] w (takePost w own lb t k p) := by
  have h1 : 1 ≤ 4 := by omega
  have HH := Lib.hid h
  obtain ⟨q, cap, e, hc1, hc2, hc3⟩ := h.hform hk
  have c5 := h.hcell hk
  rw [e] at c5
  have hlt := h.blk.lt
  have HF := Lib.hid hf
  have HC3 := Lib.hid hc3
  unfold still at HF
  obtain ⟨m, hm⟩ : ∃ m, m = (t.hs k).length := ⟨_, rfl⟩
  have HM := Lib.hid hm
  have HE := Lib.hid e
  rw [← hm] at c5 hlen hc1
  have HEG := Lib.hid heg
  clear h hf hc3 hm e heg
  refine callsIn_of_wp_marks Try.func44 rfl trivial ?_ rfl
  simp only [Try.ntmps44, List.size_toArray, List.length_cons, List.length_nil, Nat.reduceAdd, Nat.reduceSub, Array.replicate_succ, Array.replicate_zero, List.push_toArray, List.append_toArray, List.nil_append, List.cons_append]
  have hB5 : Below w.heap.size w (((((w.alloc (.cells #[ptrH lb k] 89)).alloc (.cells #[.func (.func f) #[] lbv] 71)).alloc (.cells #[.int .i64 0] 3)).alloc (.cells #[.int .i64 0] 3)).alloc (.cells #[.bool false] 4)) := ((((one _ _).alloc (by simp) _).alloc (by simp; omega) _).alloc (by simp; omega) _).alloc (by simp; omega) _
  have HB5 := Lib.hid hB5
  have hc5 := cell_of hB5 c5
  have hl5 : lb < (((((w.alloc (.cells #[ptrH lb k] 89)).alloc (.cells #[.func (.func f) #[] lbv] 71)).alloc (.cells #[.int .i64 0] 3)).alloc (.cells #[.int .i64 0] 3)).alloc (.cells #[.bool false] 4)).heap.size := by simp; omega
  have q0 := ((((Blk.new w #[ptrH lb k] 89).alloc (.cells #[.func (.func f) #[] lbv] 71)).alloc (.cells #[.int .i64 0] 3)).alloc (.cells #[.int .i64 0] 3)).alloc (.cells #[.bool false] 4)
  have q1 := (((Blk.new (w.alloc (.cells #[ptrH lb k] 89)) #[.func (.func f) #[] lbv] 71).alloc (.cells #[.int .i64 0] 3)).alloc (.cells #[.int .i64 0] 3)).alloc (.cells #[.bool false] 4)
  have q2 := ((Blk.new ((w.alloc (.cells #[ptrH lb k] 89)).alloc (.cells #[.func (.func f) #[] lbv] 71)) #[.int .i64 0] 3).alloc (.cells #[.int .i64 0] 3)).alloc (.cells #[.bool false] 4)
  have q3 := (Blk.new (((w.alloc (.cells #[ptrH lb k] 89)).alloc (.cells #[.func (.func f) #[] lbv] 71)).alloc (.cells #[.int .i64 0] 3)) #[.int .i64 0] 3).alloc (.cells #[.bool false] 4)
  have q4 := Blk.new ((((w.alloc (.cells #[ptrH lb k] 89)).alloc (.cells #[.func (.func f) #[] lbv] 71)).alloc (.cells #[.int .i64 0] 3)).alloc (.cells #[.int .i64 0] 3)) #[.bool false] 4
  simp only [World.size_alloc] at q1 q2 q3 q4
  have Q0 := Lib.hid q0; have Q1 := Lib.hid q1; have Q2 := Lib.hid q2; have Q3 := Lib.hid q3; have Q4 := Lib.hid q4
  have hsz5 : (((((w.alloc (.cells #[ptrH lb k] 89)).alloc (.cells #[.func (.func f) #[] lbv] 71)).alloc (.cells #[.int .i64 0] 3)).alloc (.cells #[.int .i64 0] 3)).alloc (.cells #[.bool false] 4)).heap.size = w.heap.size + 5 := by simp
  have HS5 := Lib.hid hsz5
  clear q0 q1 q2 q3 q4 hsz5 hB5
  gi_wp2_with fail
  generalize ((((w.alloc (.cells #[ptrH lb k] 89)).alloc (.cells #[.func (.func f) #[] lbv] 71)).alloc (.cells #[.int .i64 0] 3)).alloc (.cells #[.int .i64 0] 3)).alloc (.cells #[.bool false] 4) = w5 at *
  refine ⟨trivial, (back_in Fence.wide 3 trivial rfl q m cap w5).mono ?_⟩
  rintro e w6 ⟨rfl, hw6⟩
  have hb6 : Below w5.heap.size w5 w6 := by rw [hw6]; exact one _ _
  have hbx : Blk w6 w5.heap.size [.slice q m cap] := by rw [hw6]; exact Blk.new w5 #[.slice q m cap] 36
  have hs6 : w6.heap.size = w.heap.size + 6 := by rw [hw6]; simp [HS5.out]
  have HB6 : Hid (Below w.heap.size w w6) := Lib.hid (HB5.out.trans (hb6.mono HB5.out.size))
  have Q0 := Lib.hid (Q0.out.below hb6 Q0.out.lt)
  have Q1 := Lib.hid (Q1.out.below hb6 Q1.out.lt)
  have Q2 := Lib.hid (Q2.out.below hb6 Q2.out.lt)
  have Q3 := Lib.hid (Q3.out.below hb6 Q3.out.lt)
  have Q4 := Lib.hid (Q4.out.below hb6 Q4.out.lt)
  rw [HS5.out] at hbx
  have QB := Lib.hid hbx
  have e5 := HS5.out
  have HS6 := Lib.hid hs6
  have hpt : IntsAt w6.heap.size w6 q (pls (t.hs k)).length (fun j => (((t.hs k).getD j 0 : Nat) : Int)) := by
    intro j hj
    rw [pls_len] at hj
    obtain ⟨g, rfl, hg, hcs⟩ := HC3.out (by omega)
    refine ⟨g, 0, rfl, by have := HB6.out.size; omega, ?_⟩
    have := cell_of HB6.out (hcs j _ (List.getElem?_eq_getElem hj))
    show w6.cell? _ = some (.int .i64 (((t.hs k).getD j 0 : Nat) : Int))
    rw [Nat.zero_add, this, List.getD_eq_getElem?_getD, List.getElem?_eq_getElem hj]
    rfl
  have hlen6 : (pls (t.hs k)).length = m := by rw [pls_len, HM.out]
  have hcb := hbx.cell 0 _ rfl
  rw [← hlen6] at hcb
  have hsto := back_stops encP Fence.wide 3 trivial rfl (by omega) (w.heap.size + 5) w6.heap.size (pls (t.hs k)) _ (pls_enc (t.hs k)) q cap (by rw [hlen6]; omega) w6 (by omega) (by omega) (Nat.le_refl _) hcb hpt
  have HSTO := Lib.hid hsto
  have HLEN := Lib.hid hlen6
  clear hw6 hb6 hbx hs6 hpt hlen6 hcb hsto
  gi_wp2_with fail
  refine wpIn_rangeFunc_ownF (F := Fence.wide) (n := 4) rfl h1 (gf := 73) (lb := #[.pointer (some ⟨w.heap.size + 5, 0, none⟩)]) rfl trivial (enters_of Try.func73 (by kernel_rfl) rfl) HSTO.out belowK_t (belowK_b (Nat.le_refl _)) (Below.refl _ _) (fun _ => by rfl)
    (tkI w6 p (t.hs k)) (tkX w own lb t k p) tkI_own (fun c => tkX_own HB6.out.size)
    ⟨by simp, Below.refl _ _⟩
    (fun y => { tmps := #[ptrH lb k, .func (.func f) #[] lbv, .pointer (some ⟨w.heap.size, 0, none⟩), .pointer (some ⟨w.heap.size + 1, 0, none⟩), .pointer (some ⟨w.heap.size + 1 + 1, 0, none⟩), .pointer (some ⟨w.heap.size + 1 + 1 + 1, 0, none⟩), .pointer (some ⟨w.heap.size + 1 + 1 + 1 + 1, 0, none⟩), .int .i64 (y.1.1 : Int), .int .i64 (y.1.2 : Int), ptrH lb k, .pointer (some ⟨lb, 2 + k, none⟩), .pointer (some ⟨lb, 2 + k, none⟩), .slice q m cap, .func (.func 73) #[] #[.pointer (some ⟨w.heap.size + 5, 0, none⟩)], .int .i64 (y.1.1 : Int), .int .i64 (y.1.2 : Int), undef, undef, undef, undef, undef, undef, undef, undef, undef, undef, undef, undef, undef, undef, undef, undef, undef, undef, undef, undef, undef, undef, undef], defers := [] }) ?assign ?body ?done ?stop
  case assign =>
    intro l y W K hK
    unfold encP
    gi_wp2
    exact hK
  case body =>
    rintro l pre y W ⟨hpre, hB⟩ _
    have hB0 : Below w.heap.size w W := HB6.out.trans (hB.mono HB6.out.size)
    have b0 := Q0.out.below hB Q0.out.lt
    have b1 := Q1.out.below hB Q1.out.lt
    have b2 := Q2.out.below hB Q2.out.lt
    have b3 := Q3.out.below hB Q3.out.lt
    have b4 := Q4.out.below hB Q4.out.lt
    have c1 := b1.cell 0 _ rfl
    have hym : y.1.2 ∈ t.hs k := List.mem_of_getElem? y.2
    have CL := Lib.hid (HF.out W hB0 y.1.2 hym)
    have heg := HEG.out
    have hBn : ∀ W', Below W.heap.size W W' → KeepsOthers W W' ∧ Below w6.heap.size w6 W' ∧ Below w6.heap.size W W' := fun W' hb => ⟨⟨hb.size, fun j o e _ => (hb.block j (Array.getElem?_eq_some_iff.1 e).1).trans e⟩, hB.trans (hb.mono hB.size), hb.mono hB.size⟩
    have HBN := Lib.hid hBn
    have HPR := Lib.hid hpre
    have Q0 := Lib.hid b0; have Q1 := Lib.hid b1; have Q2 := Lib.hid b2; have Q3 := Lib.hid b3; have Q4 := Lib.hid b4
    have HB0 := Lib.hid hB0
    clear hBn hpre b0 b1 b2 b3 b4 hB hB0
    cases hpy : p y.1.2 with
    | false =>
      rw [hpy] at CL
      have HPY := Lib.hid hpy
      clear hpy
      gi_wp2_with fail
      refine ⟨trivial, (CallsIn.inRound l (callsIn_wide.2 CL.out)).mono ?_⟩
      rintro e2 W2 ⟨rfl, hb2⟩
      have HX := Lib.hid (HBN.out _ hb2)
      clear hb2 heg
      gi_wp2
      exact ⟨HX.out.1, HX.out.2.2, fun z hz => (List.mem_append.1 hz).elim (HPR.out z) (fun e => by simp at e; subst e; exact HPY.out), HX.out.2.1⟩
    | true =>
      rw [hpy] at CL
      have HPY := Lib.hid hpy
      clear hpy
      gi_wp2_with fail
      refine ⟨trivial, (CallsIn.inRound l (callsIn_wide.2 CL.out)).mono ?_⟩
      rintro e2 W2 ⟨rfl, hb2⟩
      have HX := Lib.hid (HBN.out _ hb2)
      have HB2 := Lib.hid (HB0.out.trans (hb2.mono HB0.out.size))
      have R2 := HH.out.below HB2.out
      have b0 := Q0.out.below hb2 Q0.out.lt
      have b2 := Q2.out.below hb2 Q2.out.lt
      have b3 := Q3.out.below hb2 Q3.out.lt
      have b4 := Q4.out.below hb2 Q4.out.lt
      have c0 := b0.cell 0 _ rfl
      have hl0 := b0.lt
      have ch := cell_of HB2.out c5
      have hll := R2.blk.lt
      have zh := R2.blk.fz (2 + k)
      have hyl : y.1.1 < m := by have := (List.getElem?_eq_some_iff.1 y.2).1; have := HM.out; omega
      have ey : IntKind.i64.wrap ((y.1.1 : Int) + 1) = (y.1.1 : Int) + 1 := IntWalk.i64_in _ (by omega)
      obtain ⟨m1, hm1⟩ : ∃ m1, m1 = m - 1 := ⟨_, rfl⟩
      obtain ⟨d, hd⟩ : ∃ d, d = m - 1 - y.1.1 := ⟨_, rfl⟩
      have ed : IntKind.i64.wrap ((m1 : Int) - (y.1.1 : Int)) = (d : Int) := by rw [IntWalk.i64_in _ (by omega)]; omega
      obtain ⟨g, rfl, hg, hcs⟩ := HC3.out (by have := HM.out; omega)
      have hgl : g ≠ lb := fun e => by have h1 := R2.hvo k g hk (by rw [HE.out]; rfl); rw [e, R2.mine] at h1; simp at h1
      have hgw : g < w.heap.size := hg
      have HROW2 : Hid (W2.ownsRow 0 3 1 (.slice (some ⟨g, 0, none⟩) (t.hs k).length cap) (t.hs k).length ((t.hs k).map natV)) := Lib.hid (by have := R2.hrow k hk; rw [HE.out] at this; exact this)
      have DEL := Lib.hid (delete_row W2.drew (t.hs k) HROW2.out y.1.1 (by have := HM.out; omega))
      rw [← HM.out, show ((y.1.1 + 1 : Nat) : Int) = (y.1.1 : Int) + 1 by omega, ← hm1] at DEL
      have HR2 := Lib.hid R2
      have HD := Lib.hid hd
      have HM1 := Lib.hid hm1
      have HB := Lib.hid b0; have H2 := Lib.hid b2; have H3 := Lib.hid b3; have H4 := Lib.hid b4
      clear hb2 heg hcs R2 b0 b2 b3 b4 hg hd hm1
      gi_wp2_with fail
      refine region_in_round l (R := fun a W' => ∃ W3, (Fr (fun x => x = g) W2.drew W3 ∧ W3.ownsRow 0 3 1 (.slice (some ⟨g, 0, none⟩) m1 cap) m1 (((t.hs k).eraseIdx y.1.1).map natV)) ∧ a = { tmps := #[ptrH lb k, .func (.func f) #[] lbv, .pointer (some ⟨w.heap.size, 0, none⟩), .pointer (some ⟨w.heap.size + 1, 0, none⟩), .pointer (some ⟨w.heap.size + 1 + 1, 0, none⟩), .pointer (some ⟨w.heap.size + 1 + 1 + 1, 0, none⟩), .pointer (some ⟨w.heap.size + 1 + 1 + 1 + 1, 0, none⟩), .int .i64 (y.1.1 : Int), .int .i64 (y.1.2 : Int), ptrH lb k, .pointer (some ⟨lb, 2 + k, none⟩), .pointer (some ⟨lb, 2 + k, none⟩), .slice (some ⟨g, 0, none⟩) m cap, .func (.func 73) #[] #[.pointer (some ⟨w.heap.size + 5, 0, none⟩)], .int .i64 (y.1.1 : Int), .int .i64 (y.1.2 : Int), .func (.func f) #[] lbv, .int .i64 (y.1.2 : Int), .bool true, ptrH lb k, ptrH lb k, .pointer (some ⟨lb, 2 + k, none⟩), .pointer (some ⟨lb, 2 + k, none⟩), .slice (some ⟨g, 0, none⟩) m cap, .int .i64 (y.1.1 : Int), .int .i64 (y.1.1 : Int), .int .i64 ((y.1.1 : Int) + 1), .slice (some ⟨g, 0, none⟩) m1 cap, .pointer (some ⟨lb, 2 + k, none⟩), .pointer (some ⟨lb, 2 + k, none⟩), undef, undef, undef, undef, undef, undef, undef, undef, undef], defers := [] } ∧ W' = W3.setCell ⟨lb, 2 + k, none⟩ (.slice (some ⟨g, 0, none⟩) m1 cap)) (noDefer_spec (by kernel_rfl)) (by kernel_rfl) ?_ ?_
      rotate_left
      have hS : (fun W' : World => W'.cell? ⟨w.heap.size, 0, none⟩ = some (ptrH lb k)) W2.drew := c0
      refine wpAny_of_held (S := fun W' : World => W'.cell? ⟨w.heap.size, 0, none⟩ = some (ptrH lb k)) _ _ _ _ ?_
      refine wpAnyH_take (i := 0) (v := ?v50) rfl (by kernel_rfl) (by decide +kernel) (by decide +kernel) (fun _ _ _ h => h) (Or.inl ⟨by rfl, ?hy50⟩) (by assumption) ?rest50
      case hy50 => (intro w hSw; (try dsimp only at hSw); go_simp; try with_reducible rfl)
      try simp only [Act.put, List.setIfInBounds_toArray, List.set_cons_zero, List.set_cons_succ]
      refine wpAnyH_take (i := 1) (v := ?v51) rfl (by kernel_rfl) (by decide +kernel) (by decide +kernel) (fun _ _ _ h => h) (Or.inl ⟨by rfl, ?hy51⟩) (by assumption) ?rest51
      case hy51 => (intro w hSw; (try dsimp only at hSw); go_simp; try with_reducible rfl)
      try simp only [Act.put, List.setIfInBounds_toArray, List.set_cons_zero, List.set_cons_succ]
      refine wpAnyH_take (i := 2) (v := ?v52) rfl (by kernel_rfl) (by decide +kernel) (by decide +kernel) (fun _ _ _ h => h) (Or.inl ⟨by rfl, ?hy52⟩) (by assumption) ?rest52
      case hy52 => (intro w hSw; (try dsimp only at hSw); go_simp; try with_reducible rfl)
      try simp only [Act.put, List.setIfInBounds_toArray, List.set_cons_zero, List.set_cons_succ]
      refine wpAnyH_take (i := 3) (v := ?v53) rfl (by kernel_rfl) (by decide +kernel) (by decide +kernel) (fun _ _ _ h => h) (Or.inl ⟨by rfl, ?hy53⟩) (by assumption) ?rest53
      case hy53 => (intro w hSw; (try dsimp only at hSw); go_simp; try with_reducible rfl)
      try simp only [Act.put, List.setIfInBounds_toArray, List.set_cons_zero, List.set_cons_succ]
      refine wpAnyH_take (i := 5) (v := ?v55) rfl (by kernel_rfl) (by decide +kernel) (by decide +kernel) (fun _ _ _ h => h) (Or.inl ⟨by rfl, ?hy55⟩) (by assumption) ?rest55
      case hy55 => (intro w hSw; (try dsimp only at hSw); go_simp; try with_reducible rfl)
      try simp only [Act.put, List.setIfInBounds_toArray, List.set_cons_zero, List.set_cons_succ]
      refine wpAnyH_take (i := 6) (v := ?v56) rfl (by kernel_rfl) (by decide +kernel) (by decide +kernel) (fun _ _ _ h => h) (Or.inl ⟨by rfl, ?hy56⟩) (by assumption) ?rest56
      case hy56 => (intro w hSw; (try dsimp only at hSw); go_simp; try with_reducible rfl)
      try simp only [Act.put, List.setIfInBounds_toArray, List.set_cons_zero, List.set_cons_succ]
      refine wpAnyH_take (i := 7) (v := ?v57) rfl (by kernel_rfl) (by decide +kernel) (by decide +kernel) (fun _ _ _ h => h) (Or.inl ⟨by rfl, ?hy57⟩) (by assumption) ?rest57
      case hy57 => (intro w hSw; (try dsimp only at hSw); go_simp; try with_reducible rfl)
      try simp only [Act.put, List.setIfInBounds_toArray, List.set_cons_zero, List.set_cons_succ]
      refine wpAnyH_ready (rs := [4]) (by decide +kernel) (by simp) ?_
      refine AllReadyH.cons rfl (fun K hK => ?_) AllReadyH.nil
      go_simp
      refine hK.out _ _ c0 (fun hS2 => ?_)
      clear hK K
      try simp only [Act.put, List.setIfInBounds_toArray, List.set_cons_zero, List.set_cons_succ]
      refine wpAnyH_ready (rs := [8]) (by decide +kernel) (by simp) ?_
      refine AllReadyH.cons rfl (fun K hK => ?_) AllReadyH.nil
      go_simp
      refine DEL.out.mono ?_
      rintro e3 W3 ⟨rfl, hrow3, hF3⟩
      have HROW3 := Lib.hid hrow3; have HF3 := Lib.hid hF3
      have d0 := (hF3.cell (p := ⟨w.heap.size, 0, none⟩) hl0 (show ¬ w.heap.size = g by omega)).trans c0
      have dh := (hF3.cell (p := ⟨lb, 2 + k, none⟩) hll (Ne.symm hgl)).trans ch
      have zd := (hF3.frozen (p := ⟨lb, 2 + k, none⟩) hll (Ne.symm hgl)).trans zh
      have dl := Nat.lt_of_lt_of_le hll hF3.size
      have dn : lb ≠ w.heap.size := by omega
      clear hrow3 hF3 ch zh c0 hS hS2
      try go_simp
      refine hK.out _ _ d0 (fun hS3 => ?_)
      clear hK K
      try simp only [Act.put, List.setIfInBounds_toArray, List.set_cons_zero, List.set_cons_succ]
      refine wpAnyH_take (i := 9) (v := ?v59) rfl (by kernel_rfl) (by decide +kernel) (by decide +kernel) (fun _ _ _ h => h) (Or.inl ⟨by rfl, ?hy59⟩) (by assumption) ?rest59
      case hy59 => (intro w hSw; (try dsimp only at hSw); go_simp; try with_reducible rfl)
      try simp only [Act.put, List.setIfInBounds_toArray, List.set_cons_zero, List.set_cons_succ]
      refine wpAnyH_take (i := 10) (v := ?v510) rfl (by kernel_rfl) (by decide +kernel) (by decide +kernel) (fun _ _ _ h => h) (Or.inl ⟨by rfl, ?hy510⟩) (by assumption) ?rest510
      case hy510 => (intro w hSw; (try dsimp only at hSw); go_simp; try with_reducible rfl)
      try simp only [Act.put, List.setIfInBounds_toArray, List.set_cons_zero, List.set_cons_succ]
      refine wpAnyH_ready (rs := [11]) (by decide +kernel) (by simp) ?_
      refine AllReadyH.cons rfl (fun K hK => ?_) AllReadyH.nil
      go_simp
      refine hK.out _ _ (by show World.cell? _ _ = _; rw [World.cell?_setCell_other _ _ _ _ (by intro e; have := congrArg Addr.block e; simp at this; omega)]; exact d0) (fun hS4 => ?_)
      clear hK K
      try simp only [Act.put, List.setIfInBounds_toArray, List.set_cons_zero, List.set_cons_succ]
      refine wpAnyH_done (by decide +kernel) ?_ _
      exact ⟨W3, ⟨HF3.out, HROW3.out⟩, rfl, rfl⟩
      rintro a5 W4' ⟨W3, ⟨hF3, hrow3⟩, rfl, rfl⟩
      dsimp only
      have hlE : ((t.hs k).eraseIdx y.1.1).length = m1 := by rw [List.length_eraseIdx, if_pos (by have := HM.out; omega), ← HM.out, HM1.out]
      have HG3 : Hid (Gone W2 own lb (Ld.setH t k ((t.hs k).eraseIdx y.1.1)) (W3.setCell ⟨lb, 2 + k, none⟩ (.slice (some ⟨g, 0, none⟩) m1 cap))) := Lib.hid (del_rep HR2.out hk HE.out ⟨hF3.os, hF3.tape, hF3.output, hF3.size, hF3.block, hF3.oth⟩ (by rw [hlE]; exact hrow3))
      have hF3' : Fr (fun x => x = g ∨ x = lb) W2 W3 := Fr.widen (S := fun x => x = g) ⟨hF3.os, hF3.tape, hF3.output, hF3.size, hF3.block, hF3.oth⟩ (fun x hx _ => Or.inl hx)
      have hF4 : Fr (fun x => x = g ∨ x = lb) W2 (W3.setCell ⟨lb, 2 + k, none⟩ (.slice (some ⟨g, 0, none⟩) m1 cap)) := hF3'.set (b := lb) (Or.inl (Or.inr rfl)) (2 + k) _
      have ch4 : (W3.setCell ⟨lb, 2 + k, none⟩ (.slice (some ⟨g, 0, none⟩) m1 cap)).cell? ⟨lb, 2 + k, none⟩ = some (.slice (some ⟨g, 0, none⟩) m1 cap) := World.cell?_setCell_same' _ _ _ (by rw [(hF3.cell (p := ⟨lb, 2 + k, none⟩) hll (Ne.symm hgl)).trans ch]; rfl)
      have B0 := HB.out.fr hF4 (by rintro (h | h) <;> omega)
      have B2 := H2.out.fr hF4 (by rintro (h | h) <;> omega)
      have B3 := H3.out.fr hF4 (by rintro (h | h) <;> omega)
      have B4 := H4.out.fr hF4 (by rintro (h | h) <;> omega)
      have c40 := B0.cell 0 _ rfl
      have l2 := B2.lt; have l3 := B3.lt; have l4 := B4.lt
      have x2 := B2.cell 0 _ rfl; have x3 := B3.cell 0 _ rfl; have x4 := B4.cell 0 _ rfl
      have f2 := B2.fz 0; have f3 := B3.fz 0; have f4 := B4.fz 0
      have HF4 := Lib.hid hF4
      have D2 := Lib.hid B2; have D3 := Lib.hid B3; have D4 := Lib.hid B4
      have l0 := B0.lt
      have lL : lb < (W3.setCell ⟨lb, 2 + k, none⟩ (.slice (some ⟨g, 0, none⟩) m1 cap)).heap.size := Nat.lt_of_lt_of_le hll hF4.size
      have hne2 : lb ≠ w.heap.size + 1 + 1 := by omega
      have hne3 : lb ≠ w.heap.size + 1 + 1 + 1 := by omega
      have hne4 : lb ≠ w.heap.size + 1 + 1 + 1 + 1 := by omega
      clear hrow3 hF3 hF3' hF4 hlE c0 ch zh B0 B2 B3 B4 hll hl0
      generalize W3.setCell ⟨lb, 2 + k, none⟩ (.slice (some ⟨g, 0, none⟩) m1 cap) = W4 at *
      gi_wp2_with fail
      refine region_in_round l (R := fun a W' => a = { tmps := #[ptrH lb k, .func (.func f) #[] lbv, .pointer (some ⟨w.heap.size, 0, none⟩), .pointer (some ⟨w.heap.size + 1, 0, none⟩), .pointer (some ⟨w.heap.size + 1 + 1, 0, none⟩), .pointer (some ⟨w.heap.size + 1 + 1 + 1, 0, none⟩), .pointer (some ⟨w.heap.size + 1 + 1 + 1 + 1, 0, none⟩), .int .i64 (y.1.1 : Int), .int .i64 (y.1.2 : Int), ptrH lb k, .pointer (some ⟨lb, 2 + k, none⟩), .pointer (some ⟨lb, 2 + k, none⟩), .slice (some ⟨g, 0, none⟩) m cap, .func (.func 73) #[] #[.pointer (some ⟨w.heap.size + 5, 0, none⟩)], .int .i64 (y.1.1 : Int), .int .i64 (y.1.2 : Int), .func (.func f) #[] lbv, .int .i64 (y.1.2 : Int), .bool true, ptrH lb k, ptrH lb k, .pointer (some ⟨lb, 2 + k, none⟩), .pointer (some ⟨lb, 2 + k, none⟩), .slice (some ⟨g, 0, none⟩) m cap, .int .i64 (y.1.1 : Int), .int .i64 (y.1.1 : Int), .int .i64 ((y.1.1 : Int) + 1), .slice (some ⟨g, 0, none⟩) m1 cap, .pointer (some ⟨lb, 2 + k, none⟩), .pointer (some ⟨lb, 2 + k, none⟩), .int .i64 (y.1.2 : Int), ptrH lb k, .pointer (some ⟨lb, 2 + k, none⟩), .pointer (some ⟨lb, 2 + k, none⟩), .slice (some ⟨g, 0, none⟩) m1 cap, .int .i64 (m1 : Int), .int .i64 (y.1.1 : Int), .int .i64 (d : Int), undef], defers := [] } ∧ W' = World.drew (((W4.setCell ⟨w.heap.size + 1 + 1, 0, none⟩ (.int .i64 (y.1.2 : Int))).setCell ⟨w.heap.size + 1 + 1 + 1, 0, none⟩ (.int .i64 (d : Int))).setCell ⟨w.heap.size + 1 + 1 + 1 + 1, 0, none⟩ (.bool true))) (noDefer_spec (by kernel_rfl)) (by kernel_rfl) ?_ ?_
      rotate_left
      have KEY : Hid (∀ (W : World) (b : Nat) (v : Value), b ≠ w.heap.size → b ≠ lb → (fun W' : World => W'.cell? ⟨w.heap.size, 0, none⟩ = some (ptrH lb k) ∧ W'.cell? ⟨lb, 2 + k, none⟩ = some (.slice (some ⟨g, 0, none⟩) m1 cap)) W → (fun W' : World => W'.cell? ⟨w.heap.size, 0, none⟩ = some (ptrH lb k) ∧ W'.cell? ⟨lb, 2 + k, none⟩ = some (.slice (some ⟨g, 0, none⟩) m1 cap)) (W.setCell ⟨b, 0, none⟩ v)) := Lib.hid fun W b v h1 h2 hs => ⟨(World.cell?_setCell_other _ _ _ _ (by intro e; have := congrArg Addr.block e; simp at this; omega)).trans hs.1, (World.cell?_setCell_other _ _ _ _ (by intro e; have := congrArg Addr.block e; simp at this; omega)).trans hs.2⟩
      have hS : (fun W' : World => W'.cell? ⟨w.heap.size, 0, none⟩ = some (ptrH lb k) ∧ W'.cell? ⟨lb, 2 + k, none⟩ = some (.slice (some ⟨g, 0, none⟩) m1 cap)) W4.drew := ⟨c40, ch4⟩
      refine wpAny_of_held (S := fun W' : World => W'.cell? ⟨w.heap.size, 0, none⟩ = some (ptrH lb k) ∧ W'.cell? ⟨lb, 2 + k, none⟩ = some (.slice (some ⟨g, 0, none⟩) m1 cap)) _ _ _ _ ?_
      refine wpAnyH_take (i := 0) (v := ?v60) rfl (by kernel_rfl) (by decide +kernel) (by decide +kernel) (fun _ _ _ h => h) (Or.inl ⟨by rfl, ?hy60⟩) (by assumption) ?rest60
      case hy60 => (intro w hSw; (try dsimp only at hSw); (try obtain ⟨hSw, hSv⟩ := hSw); go_simp; try with_reducible rfl)
      try simp only [Act.put, List.setIfInBounds_toArray, List.set_cons_zero, List.set_cons_succ]
      refine wpAnyH_take (i := 1) (v := ?v61) rfl (by kernel_rfl) (by decide +kernel) (by decide +kernel) (fun _ _ _ h => h) (Or.inl ⟨by rfl, ?hy61⟩) (by assumption) ?rest61
      case hy61 => (intro w hSw; (try dsimp only at hSw); (try obtain ⟨hSw, hSv⟩ := hSw); go_simp; try with_reducible rfl)
      try simp only [Act.put, List.setIfInBounds_toArray, List.set_cons_zero, List.set_cons_succ]
      refine wpAnyH_take (i := 2) (v := ?v62) rfl (by kernel_rfl) (by decide +kernel) (by decide +kernel) (fun _ _ _ h => h) (Or.inl ⟨by rfl, ?hy62⟩) (by assumption) ?rest62
      case hy62 => (intro w hSw; (try dsimp only at hSw); (try obtain ⟨hSw, hSv⟩ := hSw); go_simp; try with_reducible rfl)
      try simp only [Act.put, List.setIfInBounds_toArray, List.set_cons_zero, List.set_cons_succ]
      refine wpAnyH_take (i := 3) (v := ?v63) rfl (by kernel_rfl) (by decide +kernel) (by decide +kernel) (fun _ _ _ h => h) (Or.inl ⟨by rfl, ?hy63⟩) (by assumption) ?rest63
      case hy63 => (intro w hSw; (try dsimp only at hSw); (try obtain ⟨hSw, hSv⟩ := hSw); go_simp; try with_reducible rfl)
      try simp only [Act.put, List.setIfInBounds_toArray, List.set_cons_zero, List.set_cons_succ]
      refine wpAnyH_take (i := 4) (v := ?v64) rfl (by kernel_rfl) (by decide +kernel) (by decide +kernel) (fun _ _ _ h => h) (Or.inl ⟨by rfl, ?hy64⟩) (by assumption) ?rest64
      case hy64 => (intro w hSw; (try dsimp only at hSw); (try obtain ⟨hSw, hSv⟩ := hSw); go_simp; try with_reducible rfl)
      try simp only [Act.put, List.setIfInBounds_toArray, List.set_cons_zero, List.set_cons_succ]
      refine wpAnyH_take (i := 5) (v := ?v65) rfl (by kernel_rfl) (by decide +kernel) (by decide +kernel) (fun _ _ _ h => h) (Or.inl ⟨by rfl, ?hy65⟩) (by assumption) ?rest65
      case hy65 => (intro w hSw; (try dsimp only at hSw); (try obtain ⟨hSw, hSv⟩ := hSw); go_simp; try with_reducible rfl)
      try simp only [Act.put, List.setIfInBounds_toArray, List.set_cons_zero, List.set_cons_succ]
      refine wpAnyH_take (i := 6) (v := ?v66) rfl (by kernel_rfl) (by decide +kernel) (by decide +kernel) (fun _ _ _ h => h) (Or.inl ⟨by rfl, ?hy66⟩) (by assumption) ?rest66
      case hy66 => (intro w hSw; (try dsimp only at hSw); (try obtain ⟨hSw, hSv⟩ := hSw); go_simp; try with_reducible rfl)
      try simp only [Act.put, List.setIfInBounds_toArray, List.set_cons_zero, List.set_cons_succ]
      refine wpAnyH_take (i := 7) (v := ?v67) rfl (by kernel_rfl) (by decide +kernel) (by decide +kernel) (fun _ _ _ h => h) (Or.inl ⟨by rfl, ?hy67⟩) (by assumption) ?rest67
      case hy67 => (intro w hSw; (try dsimp only at hSw); (try obtain ⟨hSw, hSv⟩ := hSw); go_simp; try with_reducible rfl)
      try simp only [Act.put, List.setIfInBounds_toArray, List.set_cons_zero, List.set_cons_succ]
      refine wpAnyH_ready (rs := [8]) (by decide +kernel) (by simp) ?_
      refine AllReadyH.cons rfl (fun K hK => ?_) AllReadyH.nil
      go_simp
      refine hK.out _ _ (KEY.out _ _ _ (by omega) (by omega) hS) (fun hS2 => ?_)
      clear hK K
      try simp only [Act.put, List.setIfInBounds_toArray, List.set_cons_zero, List.set_cons_succ]
      refine wpAnyH_ready (rs := [9]) (by decide +kernel) (by simp) ?_
      refine AllReadyH.cons rfl (fun K hK => ?_) AllReadyH.nil
      go_simp
      refine hK.out _ _ (KEY.out _ _ _ (by omega) (by omega) hS2) (fun hS3 => ?_)
      clear hK K
      try simp only [Act.put, List.setIfInBounds_toArray, List.set_cons_zero, List.set_cons_succ]
      refine wpAnyH_ready (rs := [10]) (by decide +kernel) (by simp) ?_
      refine AllReadyH.cons rfl (fun K hK => ?_) AllReadyH.nil
      go_simp
      refine hK.out _ _ (KEY.out _ _ _ (by omega) (by omega) hS3) (fun hS4 => ?_)
      clear hK K
      try simp only [Act.put, List.setIfInBounds_toArray, List.set_cons_zero, List.set_cons_succ]
      refine wpAnyH_done (by decide +kernel) ?_ _
      exact ⟨rfl, rfl⟩
      rintro a6 W6 ⟨rfl, rfl⟩
      dsimp only
      have HGG := Lib.hid ((set3_gone HB2.out HG3.out (fun x hx => HH.out.not_own hx) (a := w.heap.size + 1 + 1) (b := w.heap.size + 1 + 1 + 1) (c := w.heap.size + 1 + 1 + 1 + 1) (by omega) (by omega) (by omega) H2.out.lt H3.out.lt H4.out.lt (.int .i64 (y.1.2 : Int)) (.int .i64 (d : Int)) (.bool true)).below (below_drewN (Below.refl _ _) 1))
      have HCC := Lib.hid (set3_cells (x' := .int .i64 (y.1.2 : Int)) (y' := .int .i64 (d : Int)) (z' := .bool true) D2.out D3.out D4.out (by omega) (by omega) (by omega))
      have HKO : Hid (KeepsOthers W W4) := Lib.hid (HX.out.1.trans ⟨HF4.out.size, HF4.out.oth⟩)
      have ED : Hid (d = (t.hs k).length - 1 - y.1.1) := Lib.hid (by rw [HD.out, HM.out])
      clear x2 x3 x4 f2 f3 f4 c40 ch4
      gi_wp2
      refine ⟨HKO.out.trans ((KeepsOthers.setCell _ _ _).trans ((KeepsOthers.setCell _ _ _).trans ((KeepsOthers.setCell _ _ _).trans (KeepsOthers.drew _)))), rfl, pre, _, rfl, HPR.out, HPY.out, _, ⟨HGG.out, HCC.out.1.drew, ?_, HCC.out.2.2.drew⟩, Tn.refl _ _⟩
      rw [← ED.out]
      exact HCC.out.2.1.drew
  case done =>
    rintro D ys W hD rfl ⟨hno, hB⟩ hK
    have hB0 : Below w.heap.size w W := HB6.out.trans (hB.mono HB6.out.size)
    have b2 := Q2.out.below hB Q2.out.lt
    have b3 := Q3.out.below hB Q3.out.lt
    have b4 := Q4.out.below hB Q4.out.lt
    have c2 := b2.cell 0 _ rfl
    have c3 := b3.cell 0 _ rfl
    have c4 := b4.cell 0 _ rfl
    have z2 := b2.fz 0
    have z3 := b3.fz 0
    have z4 := b4.fz 0
    have B2 := Lib.hid b2; have B3 := Lib.hid b3; have B4 := Lib.hid b4; have HB0 := Lib.hid hB0
    have HI : Hid (Ld.lastAt p (t.hs k) = none) := Lib.hid (lastAt_all hno)
    have HKd := Lib.hid hK
    clear b2 b3 b4 hno hB0 hK hB
    gi_wp2_with fail
    have hK' := ((KeepsOthers.setCell W ⟨w.heap.size + 1 + 1, 0, none⟩ (.int .i64 0)).trans ((KeepsOthers.setCell (W.setCell ⟨w.heap.size + 1 + 1, 0, none⟩ (.int .i64 0)) ⟨w.heap.size + 1 + 1 + 1, 0, none⟩ (.int .i64 0)).trans (KeepsOthers.setCell ((W.setCell ⟨w.heap.size + 1 + 1, 0, none⟩ (.int .i64 0)).setCell ⟨w.heap.size + 1 + 1 + 1, 0, none⟩ (.int .i64 0)) ⟨w.heap.size + 1 + 1 + 1 + 1, 0, none⟩ (.bool false)))).same D _ HKd.out rfl
    have hG : Gone w own lb t (((W.setCell ⟨w.heap.size + 1 + 1, 0, none⟩ (.int .i64 0)).setCell ⟨w.heap.size + 1 + 1 + 1, 0, none⟩ (.int .i64 0)).setCell ⟨w.heap.size + 1 + 1 + 1 + 1, 0, none⟩ (.bool false)) :=
      set3_gone (W := W) HB0.out (HH.out.below HB0.out).gone (fun x hx => HH.out.not_own hx) (by omega) (by omega) (by omega) B2.out.lt B3.out.lt B4.out.lt _ _ _
    obtain ⟨e1, e2, e3⟩ := set3_cells (x' := .int .i64 0) (y' := .int .i64 0) (z' := .bool false) B2.out B3.out B4.out (by omega) (by omega) (by omega)
    have hT := tn_put (B := w.heap.size) hK' rfl (by have := HS6.out; omega) (by obtain ⟨_, _, _, _, hF⟩ := hG; exact hF.size) (.deferred none)
    refine ⟨by simp, .inl ⟨_, _, rfl, run_takeDeferred hK', ?_⟩⟩
    have r1 := (e1.tn hT).cell 0 _ rfl
    have r2 := (e2.tn hT).cell 0 _ rfl
    have r3 := (e3.tn hT).cell 0 _ rfl
    refine ⟨.tuple #[.int .i64 0, .int .i64 0, .bool false], by simp [results, Try.f44, go_sem, r1, r2, r3], ?_⟩
    unfold takePost
    rw [HI.out]
    exact ⟨rfl, (GoneT.gone ⟨_, hG, hT⟩)⟩
  case stop =>
    rintro D c pre W hD hpre ⟨rfl, pre0, y, hp0, hno, hyp, W0, ⟨hG, hb1, hb2, hb3⟩, hT⟩ hK
    have HI : Hid (Ld.lastAt p (t.hs k) = some y.1.1) := Lib.hid (lastAt_pre (by rw [← hp0]; exact hpre) hno hyp)
    have HY : Hid ((t.hs k).getD y.1.1 0 = y.1.2) := Lib.hid (by rw [List.getD_eq_getElem?_getD, y.2]; rfl)
    gi_wp2_with fail
    have hT2 := hT.grown (grownBy_putObj' W D (.deferred none)) (fun r e => by cases e; exact ⟨by have := HS6.out; omega, _, hK, rfl⟩) (by obtain ⟨_, _, _, _, hF⟩ := hG; exact hF.size)
    refine ⟨by simp, .inl ⟨_, _, rfl, run_takeDeferred hK, ?_⟩⟩
    have r1 := (hb1.tn hT2).cell 0 _ rfl
    have r2 := (hb2.tn hT2).cell 0 _ rfl
    have r3 := (hb3.tn hT2).cell 0 _ rfl
    refine ⟨.tuple #[.int .i64 (y.1.2 : Int), .int .i64 (((t.hs k).length - 1 - y.1.1 : Nat) : Int), .bool true], by simp [results, Try.f44, go_sem, r1, r2, r3], ?_⟩
    unfold takePost
    rw [HI.out]
    simp only
    rw [HY.out]
    exact ⟨rfl, (GoneT.gone ⟨_, hG, hT2⟩)⟩
theorem take_any (f : Nat) (lbv : Array Value) (heg : ∀ args w, (callFunc f args).run Try.prog w = .ok (.enter f args) w) (h : Rep w own lb L t) {k : Nat} (hk : k < 65) (hlen : (t.hs k).length ≤ 1000) (p : Nat → Bool)
    (hf : ∀ W, Below w.heap.size w W → ∀ a ∈ t.hs k, Calls Try.prog f (#[.int .i64 (a : Int)] ++ lbv) W (still W (.bool (p a)))) :
    Calls Try.prog 44 #[ptrH lb k, .func (.func f) #[] lbv] w (takePost w own lb t k p) := (callsIn_wide (n := 4)).1 (take_in f lbv heg h hk hlen p hf)
end
end Go.Proofs.Ytapbghkoijmjeaa
