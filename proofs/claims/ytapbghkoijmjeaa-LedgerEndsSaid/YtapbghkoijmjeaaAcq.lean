/- What Acquire does. -/
import Derived.StillTailTactics
import Derived.Test.YtapbghkoijmjeaaPush
namespace Go.Proofs.Ytapbghkoijmjeaa
set_option linter.unusedVariables false
set_option linter.unusedSimpArgs false
open Go.RowKit
theorem flat_get {α : Type} {f : α → List Value} {sz : Nat} (hf : ∀ x, (f x).length = sz) : ∀ (l : List α) (j i : Nat) (x : α), l[j]? = some x → i < sz → (l.flatMap f)[j * sz + i]? = (f x)[i]?
  | [], _, _, _, h, _ => by simp at h
  | a :: l, 0, i, x, h, hi => by
    have e : a = x := by simpa using h
    subst e
    rw [List.flatMap_cons, Nat.zero_mul, Nat.zero_add, List.getElem?_append_left (by rw [hf]; exact hi)]
  | a :: l, j + 1, i, x, h, hi => by
    have e : (j + 1) * sz + i = sz + (j * sz + i) := by rw [Nat.add_mul]; omega
    rw [List.flatMap_cons, e, List.getElem?_append_right (by rw [hf]; omega), hf, Nat.add_sub_cancel_left]
    exact flat_get hf l j i x (by simpa using h) hi
theorem flat_len {α : Type} {f : α → List Value} {sz : Nat} (hf : ∀ x, (f x).length = sz) : ∀ l : List α, (l.flatMap f).length = l.length * sz
  | [] => by simp
  | a :: l => by rw [List.flatMap_cons, List.length_append, hf, flat_len hf l, List.length_cons, Nat.add_mul]; omega
theorem wp_append_at {P : Program} (w : World) {o : Oper} {a : Act} {K : Act → World → Prop} {Q : Exit → Act → World → Prop} (s x : Operand) (t : TypeId)
    (ho : o.op = .call { callee := .builtin .append, args := #[s, x], argTypes := #[t, t] })
    (base : Nat) (e : TypeId) (i : TypeInfo) (z : Value) (size bytes : Nat) (ht : P.underlying t = some (.slice e)) (hi : P.info? e = some i) (hz : i.zero = some z)
    (hsize : i.size = size) (hby : i.bytes = bytes) (hzs : z.cells.size = size) (hsz : 0 < size)
    (v : Value) (n : Nat) (xs : List Value) (hs : a.eval s = v) (hown : w.ownsRow base e size v n xs)
    (ad : Addr) (m c : Nat) (news : List Value) (hx : a.eval x = .slice (some ad) m c) (hl : news.length = m * size) (hnews : ∀ j u, news[j]? = some u → w.cell? (ad.add j) = some u) (h1 : ∀ u ∈ news, u.oneCell' = true)
    (h63 : n + m ≤ maxLen) (hbytes : (n + m) * bytes ≤ 140737488355328) (hbase : base ≤ w.heap.size)
    (h : ∀ v' w', w'.ownsRow base e size v' (n + m) (xs ++ news) → w.grownBy w' v.ownBlock → (v'.ownBlock = v.ownBlock ∨ v'.ownBlock = some w.heap.size) → K (a.put o.dst v') w') : o.wp P a w K Q := by
  obtain ⟨v', w', hr, h2, h3, h4, h5⟩ := run_append_own_at (P := P) w base t o.type e i z size bytes ht hi hz hsize hby hzs hsz v n xs hown ad m c news hl hnews h1 h63 hbytes hbase
  unfold Oper.wp execOp
  simp only [ho, resolve, invoke, builtin, Sem.run_bind, Sem.run_pure, Result.andThen_ok, List.map_toArray, List.map_cons, List.map_nil, hs, hx, hr]
  exact h v' w' h2 h3 h5
theorem cells_new (w : World) (l : List Value) (t : TypeId) : ∀ j u, l[j]? = some u → (w.alloc (.cells l.toArray t)).cell? ((⟨w.heap.size, 0, none⟩ : Addr).add j) = some u := fun j u hu => by
  rw [add_off, Nat.zero_add, World.cell?_alloc_at _ _ _ _ rfl]
  simpa using hu
section
variable {w : World} {own : Own} {lb : Nat} {L : Lay} {t : Ld.T}
theorem Rep.eform (h : Rep w own lb L t) : ∃ p cap, L.ev = .slice p t.es.length cap ∧ t.es.length ≤ cap ∧ cap ≤ maxLen ∧ (0 < t.es.length → ∃ g, p = some ⟨g, 0, none⟩ ∧ own g = some .ents ∧ g < w.heap.size ∧ (∀ o, w.frozen? ⟨g, o, none⟩ = false) ∧ ∀ (a : Nat) e, t.es[a]? = some e → ∀ j u, (enC e)[j]? = some u → w.cell? ⟨g, a * 6 + j, none⟩ = some u) := by
  have he := h.erow
  have hl := he.lt
  have ho := h.evo
  rcases he.2 with ⟨hv, h0⟩ | ⟨g, cap, cur, hv, hb, hg, h1, h2, h3, h4⟩
  · exact ⟨none, 0, by rw [h0]; exact hv, by omega, Nat.zero_le _, fun hp => by omega⟩
  · refine ⟨some ⟨g, 0, none⟩, cap, hv, h1, h2, fun hp => ⟨g, rfl, ho g (by rw [hv]; rfl), (Array.getElem?_eq_some_iff.1 hg).1, fun o => by simp [World.frozen?, hg], fun a e hx j u hu => ?_⟩⟩
    have hc := he.cells (g := g) (by rw [hv]; rfl) (a * 6 + j) u (by
      have ha : a < t.es.length := (List.getElem?_eq_some_iff.1 hx).1
      have hj : j < 6 := (List.getElem?_eq_some_iff.1 hu).1
      rw [← hu]; exact flat_get (f := enC) (sz := 6) (fun _ => rfl) t.es a j e hx hj)
    rw [add_off, Nat.zero_add] at hc
    exact hc
theorem add_rep (h : Rep w own lb L t) (e : Ld.En) {o : Obj} {w5 : World} {v : Value} (hG : (w.alloc o).grownBy w5 L.ev.ownBlock)
    (hrow : w5.ownsRow 0 76 6 v (t.es.length + 1) (t.es.flatMap enC ++ enC e)) (hat : v.ownBlock = L.ev.ownBlock ∨ v.ownBlock = some (w.heap.size + 1)) :
    Gone w own lb { t with es := t.es ++ [e] } (w5.setCell ⟨lb, 1, none⟩ v) := by
  have hF : Fr (fun b => b = lb ∨ L.ev.ownBlock = some b) w (w5.setCell ⟨lb, 1, none⟩ v) :=
    Fr.set (Fr.grown (((Fr.refl (fun b => b = lb ∨ L.ev.ownBlock = some b) w).alloc o)) hG (fun x e => .inl (.inr e)) (owns_cells (h.erow.alloc o))) (.inl (.inl rfl)) _ v
  have hB := ((h.blk.alloc o).grown hG h.led_ents).set (o := 1) (by rw [ldC_len]; omega) v
  have hv : ∀ b, v.ownBlock = some b → own b = some .ents ∨ w.heap.size ≤ b := fun b e => by
    rcases hat with h1 | h1
    · exact .inl (h.evo b (h1 ▸ e))
    · rw [h1] at e; cases e; right; omega
  have hvt : ∀ b, v.ownBlock = some b → b ≠ lb := fun b e e' => by
    have hl := h.blk.lt
    rcases hv b e with h1 | h1
    · rw [e', h.mine] at h1; simp at h1
    · omega
  have hR := h.turnE (v := v) (es := t.es ++ [e]) hF hB (by
      rcases hat with h1 | h1
      · exact .inr (.inl h1)
      · exact .inr (.inr ⟨_, h1, by omega⟩)) (by
      have := owns_fr hrow (Fr.set (Fr.refl (fun b => b = lb) w5) (.inl rfl) 1 v) fun b e => hvt b e
      simpa using this)
  refine ⟨_, _, hR, fun b hb => ?_, hF.widen fun b hb _ => ?_⟩
  · unfold put
    split
    · rename_i e
      rcases hv b e with h1 | h1
      · exact h1.symm
      · omega
    · rfl
  · rcases hb with rfl | hb
    · rw [h.mine]; simp
    · rw [h.evo b hb]; simp
theorem time_rep (h : Rep w own lb L t) (n : Nat) : Rep (w.setCell ⟨lb, 0, none⟩ (natV n)) own lb L { t with time := n } ∧ Fr (fun k => own k ≠ none) w (w.setCell ⟨lb, 0, none⟩ (natV n)) := by
  have hF : Fr (fun b => b = lb) w (w.setCell ⟨lb, 0, none⟩ (natV n)) := Fr.set (Fr.refl (fun b => b = lb) w) (.inl rfl) 0 _
  exact ⟨h.turnTime hF (h.blk.set (o := 0) (by rw [ldC_len]; omega) _), hF.widen fun b hb _ => by rw [hb, h.mine]; simp⟩

set_option maxRecDepth 100000 in
set_option maxHeartbeats 4000000 in
theorem acquire_ok (h : Rep w own lb L t) (hk : Ld.Ok t) {k : Nat} (h1 : 1 ≤ k) (h2 : k ≤ 64) (what : Int) (hw : Ld.isWhat what = true) (hn : (t.hs k).length < 40) (he : t.es.length < 400) :
    Calls Try.prog 17 #[ptr lb, .int .i64 (k : Int), .int .i64 what] w fun e w' => e = .returned (.int .i64 0) ∧ Gone w own lb (Ld.add t k what) w' := by
  have KN := Lib.hid (knows_yes (k : Int) ⟨lb, 0, none⟩ w (by omega) (by omega))
  have WN := Lib.hid (isWhat_any what w)
  rw [hw] at WN
  obtain ⟨p, cap, e, g1, g2, -⟩ := h.hform (k := k) (by omega)
  have SZ : Hid (Calls Try.prog 42 #[ptrH lb k] w (same w (natV (t.hs k).length))) := Lib.hid (size_any w lb (2 + k) p _ cap (by rw [← e]; exact h.hcell (by omega)))
  obtain ⟨pe, ce, ee, ge1, ge2, -⟩ := h.eform
  have c0 := h.blk.cell 0 _ rfl
  have c1 := h.blk.cell 1 _ rfl
  rw [ee] at c1
  have z0 := h.blk.fz 0
  have hlt := h.blk.lt
  unfold same at KN WN SZ
  have ht := hk.time
  obtain ⟨R1, F1⟩ := time_rep h (t.time + 1)
  have HR1 := Lib.hid R1
  have HF1 := Lib.hid F1
  have hx1 : ((((t.hs k).length : Nat) : Int) == 40) = false := by simp; omega
  have hx2 : (((t.es.length : Nat) : Int) == 400) = false := by simp; omega
  have PU0 : Hid (∀ W, Rep W own lb L { t with time := t.time + 1 } → Calls Try.prog 43 #[ptrH lb k, .int .i64 (t.es.length : Int)] W fun e w' => e = .returned (.tuple #[]) ∧ Gone W own lb (Ld.setH { t with time := t.time + 1 } k (t.hs k ++ [t.es.length])) w') := Lib.hid fun W hW => push_any hW (by omega) t.es.length (by show (t.hs k).length ≤ 1000; omega)
  have HC1 : Hid ((w.setCell ⟨lb, 0, none⟩ (natV (t.time + 1))).cell? ⟨lb, 1, none⟩ = some (.slice pe t.es.length ce)) := Lib.hid (by rw [← ee]; exact R1.blk.cell 1 _ rfl)
  generalize (t.hs k).length = n at *
  obtain ⟨m, hm⟩ : ∃ m, t.es.length = m := ⟨_, rfl⟩
  have HMM := Lib.hid hm
  rw [hm] at PU0 HC1 c1 hx2 he ge1
  clear hm
  have e1 : IntKind.i64.wrap ((t.time : Int) + 1) = (t.time : Int) + 1 := IntWalk.i64_in _ (by omega)
  clear h hk hw e ee R1 F1
  have kk1 : (0 : Int) ≤ (k : Int) := by omega
  have kk2 : (k : Int) < 65 := by omega
  have kk3 : ((k : Int)).toNat = k := by omega
  go_enter Try.func17, Try.ntmps17
  go_wp2_with fail
  refine KN.out.mono ?_
  rintro e w2 ⟨rfl, rfl⟩
  go_wp2_with fail
  refine WN.out.mono ?_
  rintro e w2 ⟨rfl, rfl⟩
  go_wp2_with fail
  refine SZ.out.mono ?_
  rintro e w2 ⟨rfl, rfl⟩
  go_wp2_with fail
  have PU : Hid (∀ W, Rep W own lb L { t with time := t.time + 1 } → Calls Try.prog 43 #[ptrH lb k, .int .i64 (m : Int)] W fun e w' => e = .returned (.tuple #[]) ∧ Gone W own lb (Ld.setH { t with time := t.time + 1 } k (t.hs k ++ [m])) w') := PU0
  have d1 : (w.setCell ⟨lb, 0, none⟩ (.int .i64 ((t.time : Int) + 1))).cell? ⟨lb, 1, none⟩ = some (.slice pe m ce) := HC1.out
  have dl : lb < (w.setCell ⟨lb, 0, none⟩ (.int .i64 ((t.time : Int) + 1))).heap.size := HR1.out.blk.lt
  have R1 : Hid (Rep (w.setCell ⟨lb, 0, none⟩ (.int .i64 ((t.time : Int) + 1))) own lb L { t with time := t.time + 1 }) := HR1
  have F1 : Hid (Fr (fun k => own k ≠ none) w (w.setCell ⟨lb, 0, none⟩ (.int .i64 ((t.time : Int) + 1)))) := HF1
  clear c0 c1 z0 hlt HR1 HF1 HC1 PU0
  generalize w.setCell ⟨lb, 0, none⟩ (.int .i64 ((t.time : Int) + 1)) = w1 at *
  go_still_tail 11, (by kernel_rfl)
  change wpList _ _ _ _ _ w1.drew
  have PU2 := Lib.hid (PU.out w1.drew R1.out.drew)
  clear PU d1 dl
  go_wp2_with fail
  refine PU2.out.mono ?_
  rintro e w2 ⟨rfl, hG⟩
  have F2 : Hid (Fr (fun k => own k ≠ none) w w1.drew) := Lib.hid F1.out.drew
  obtain ⟨o2, L2, hR2, hk2, hF2⟩ := hG
  have G2 : Hid (Gone w own lb (Ld.setH { t with time := t.time + 1 } k (t.hs k ++ [m])) w2) := Lib.hid ⟨o2, L2, hR2, fun x hx => hk2 x (Nat.lt_of_lt_of_le hx F2.out.size), F2.out.thenL hF2 fun x hx => .inl hx⟩
  obtain ⟨p2, ce2, e2, ge1', ge2', -⟩ := hR2.eform
  have b0 := hR2.blk.cell 0 _ rfl
  have b1 := hR2.blk.cell 1 _ rfl
  have row2 := hR2.erow
  have nr2 := hR2.led_ents
  have AD : Hid (∀ (e : Ld.En) (o : Obj) (w5 : World) (v : Value), (w2.alloc o).grownBy w5 L2.ev.ownBlock → w5.ownsRow 0 76 6 v (t.es.length + 1) (t.es.flatMap enC ++ enC e) → (v.ownBlock = L2.ev.ownBlock ∨ v.ownBlock = some (w2.heap.size + 1)) → Gone w2 o2 lb { (Ld.setH { t with time := t.time + 1 } k (t.hs k ++ [m])) with es := t.es ++ [e] } (w5.setCell ⟨lb, 1, none⟩ v)) := Lib.hid fun e o w5 v hG hrow hat => add_rep hR2 e hG hrow hat
  have KE : Hid (o2 = o2 ∧ Rep w2 o2 lb L2 (Ld.setH { t with time := t.time + 1 } k (t.hs k ++ [m]))) := Lib.hid ⟨rfl, hR2⟩
  have HM : Hid (t.es.length = m) := HMM
  have E2 := Lib.hid e2
  have HL2 : Hid ((Ld.setH { t with time := t.time + 1 } k (t.hs k ++ [m])).es.length = m) := HMM
  have b1' : w2.cell? ⟨lb, 1, none⟩ = some (.slice p2 m ce2) := by rw [← HL2.out, ← e2]; exact b1
  have b0' : w2.cell? ⟨lb, 0, none⟩ = some (.int .i64 ((t.time : Int) + 1)) := b0
  have row2' : w2.ownsRow 0 76 6 (.slice p2 m ce2) m (t.es.flatMap enC) := by
    have := row2; rw [e2, HL2.out] at this; exact this
  have HROW := Lib.hid row2'
  have NR : Hid (some lb ≠ (Value.slice p2 m ce2).ownBlock) := Lib.hid (by have := nr2; rw [e2, HL2.out] at this; exact this)
  have AD2 : Hid (∀ (e : Ld.En) (o : Obj) (w5 : World) (v : Value), (w2.alloc o).grownBy w5 (Value.slice p2 m ce2).ownBlock → w5.ownsRow 0 76 6 v (m + 1) (t.es.flatMap enC ++ enC e) → (v.ownBlock = (Value.slice p2 m ce2).ownBlock ∨ v.ownBlock = some (w2.heap.size + 1)) → Gone w2 o2 lb { (Ld.setH { t with time := t.time + 1 } k (t.hs k ++ [m])) with es := t.es ++ [e] } (w5.setCell ⟨lb, 1, none⟩ v)) := Lib.hid (by
    have := AD.out; rw [e2, HL2.out, HM.out] at this; exact this)
  have l2 := hR2.blk.lt
  have HB2 := Lib.hid hR2.blk
  have GF : Hid (∀ t' w', Gone w2 o2 lb t' w' → Gone w own lb t' w') := Lib.hid fun t' w' hg => G2.out.then' ⟨o2, L2, rfl, hR2, fun x hx => hk2 x (Nat.lt_of_lt_of_le hx F2.out.size), F2.out.thenL hF2 fun x hx => .inl hx⟩ hg
  obtain ⟨i0, hi, hz0, hz1, hz2⟩ := info_parts info76
  have HI := Lib.hid hi; have HZ0 := Lib.hid hz0; have HZ1 := Lib.hid hz1; have HZ2 := Lib.hid hz2
  have hml : (2000000 : Nat) ≤ maxLen := by decide
  clear b0 b1 row2 row2' nr2 AD e2 hR2 hk2 hF2 ge1' ge2' PU2 hi hz0 hz1 hz2 R1 F1
  go_wp2_with fail
  go_region_law (first
    | (refine wp_append_at _ _ _ 56 (by rfl) 0 76 i0 _ 6 40 Try.underlying56 HI.out HZ0.out HZ1.out HZ2.out (by rfl) (by decide) (.slice p2 m ce2) m (t.es.flatMap enC) (by rfl) (by exact HROW.out.alloc _) ⟨w2.heap.size, 0, none⟩ 1 1 [.int .i64 what, .int .i64 k, .int .i64 ((t.time : Int) + 1), .int .i64 0, .bool false, .bool false] (by rfl) (by rfl) (by exact cells_new _ _ _) (by simp [Value.oneCell']) (by omega) (by omega) (by simp) ?_; intro v5 w5 hown5 hG5 hat5; have hc5 : w5.cell? ⟨lb, 1, none⟩ = some (.slice p2 m ce2) := (World.cell?_of_block (a := ⟨lb, 1, none⟩) (hG5.block lb (by simp; omega) NR.out)).trans ((World.cell?_alloc_past _ _ _ l2).trans b1'); have hz5 : w5.frozen? ⟨lb, 1, none⟩ = false := (World.frozen?_of_block (a := ⟨lb, 1, none⟩) (hG5.block lb (by simp; omega) NR.out)).trans ((HB2.out.alloc _).fz _); have hl5 : lb < w5.heap.size := (by have := hG5.size; simp at this; omega); obtain ⟨g5, cp5, rfl⟩ := ownsRow_succ hown5; have HO5 := Lib.hid hown5; have HG5 := Lib.hid hG5; have HA5 := Lib.hid hat5; clear hown5 hG5 hat5))
  all_goals
    have HR := Lib.hid (GF.out _ _ (AD2.out ⟨what, (k : Int), ((t.time : Int) + 1), 0, false, false⟩ (.cells #[.int .i64 what, .int .i64 k, .int .i64 ((t.time : Int) + 1), .int .i64 0, .bool false, .bool false] 76) w5 (.slice (some ⟨g5, 0, none⟩) (m + 1) cp5) ⟨HG5.out.os, HG5.out.tape, HG5.out.output, HG5.out.size, HG5.out.block⟩ HO5.out (HA5.out.imp id fun e => by rw [e]; simp)))
    clear hc5 hz5 hl5 HO5 HG5 HA5
    go_wp2
    go_ret
    refine ⟨rfl, ?_⟩
    have := HR.out
    unfold Ld.add
    rw [HM.out]
    exact this
end
end Go.Proofs.Ytapbghkoijmjeaa
