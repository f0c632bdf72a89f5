/- The state of a task. -/
import Derived.Test.YtcegmdlmnibheaaEach2
namespace Go.Proofs.Ytcegmdlmnibheaa
set_option linter.unusedVariables false
set_option linter.unusedSimpArgs false
open Go.RowKit
def scN : Option Nat → Int | none => 0 | some j => (j : Int) + 1
section
variable {w : World} {own : Own} {tb : Nat} {L : Lay} {t : Tr.T}
theorem new6_of {W0 w5 : World} {c0 c1 c2 c3 c4 c5 : Value} (hb : Below (W0.alloc (.cells #[c0, c1, c2, c3, c4, c5] 52)).drew.heap.size (W0.alloc (.cells #[c0, c1, c2, c3, c4, c5] 52)).drew w5) :
    w5.cell? ⟨W0.heap.size, 0, none⟩ = some c0 ∧ w5.cell? ⟨W0.heap.size, 1, none⟩ = some c1 ∧ w5.cell? ⟨W0.heap.size, 2, none⟩ = some c2 ∧ w5.cell? ⟨W0.heap.size, 3, none⟩ = some c3 ∧ w5.cell? ⟨W0.heap.size, 4, none⟩ = some c4 ∧ w5.cell? ⟨W0.heap.size, 5, none⟩ = some c5 ∧
    w5.frozen? ⟨W0.heap.size, 0, none⟩ = false ∧ w5.frozen? ⟨W0.heap.size, 1, none⟩ = false ∧ w5.frozen? ⟨W0.heap.size, 2, none⟩ = false ∧ w5.frozen? ⟨W0.heap.size, 3, none⟩ = false ∧ w5.frozen? ⟨W0.heap.size, 4, none⟩ = false ∧ w5.frozen? ⟨W0.heap.size, 5, none⟩ = false ∧ W0.heap.size < w5.heap.size := by
  have h := ((Blk.new W0 #[c0, c1, c2, c3, c4, c5] 52).drew).below hb (Blk.new W0 #[c0, c1, c2, c3, c4, c5] 52).drew.lt
  exact ⟨h.cell 0 _ rfl, h.cell 1 _ rfl, h.cell 2 _ rfl, h.cell 3 _ rfl, h.cell 4 _ rfl, h.cell 5 _ rfl, h.fz 0, h.fz 1, h.fz 2, h.fz 3, h.fz 4, h.fz 5, h.lt⟩
theorem kept_of {W w1 : World} (hb : Below W.heap.size W w1) : (∀ b o, b < W.heap.size → w1.cell? ⟨b, o, none⟩ = W.cell? ⟨b, o, none⟩) ∧ (∀ b o, b < W.heap.size → w1.frozen? ⟨b, o, none⟩ = W.frozen? ⟨b, o, none⟩) :=
  ⟨fun b o h => hb.cell (p := ⟨b, o, none⟩) h, fun b o h => hb.frozen (p := ⟨b, o, none⟩) h⟩
theorem Fr.at1 {S : Nat → Prop} {A B : World} (h : Fr S A B) {b : Nat} (hb : S b) (o : Nat) (v : Value) : Fr S A (B.setCell ⟨b, o, none⟩ v) := h.set (.inl hb) o v
theorem links_of (h : Rep w own tb L t) (hl : Lim t) {i : Nat} {x : Tr.Tk} (hx : t.ts[i]? = some x) {p : Option Addr} {cap : Nat} (e : L.ov i = .slice p x.op.length cap) (W : World) (hW : Below w.heap.size w W) :
    Calls Try.prog 97 #[.slice p x.op.length cap, .func (.func 66) #[] #[]] W fun e w' => ∃ q cq, e = .returned (.slice q x.op.length cq) ∧ x.op.length ≤ cq ∧ cq ≤ maxLen ∧ LinksRow W w' (.slice q x.op.length cq) x.op := by
  have hR := h.below hW
  obtain ⟨p', cap', e', h1, h2, h3⟩ := (hR.tk i x hx).form
  rw [e] at e'
  cases e'
  refine links_any hR x.op p cap (by have := hl.op hx; omega) h1 (fun j hj => h.rng.op i x j hx hj) fun k s hs => ?_
  obtain ⟨g, e2, hg, hc⟩ := h3 (by have := (List.getElem?_eq_some_iff.1 hs).1; omega)
  exact ⟨g, e2, hg, hc k s hs⟩
set_option maxRecDepth 100000 in
set_option maxHeartbeats 8000000 in
theorem tstate_any (h : Rep w own tb L t) (hl : Lim t) {i : Nat} {x : Tr.Tk} (hx : t.ts[i]? = some x) :
    Calls Try.prog 64 #[tkP L i] w fun e w' => ∃ q cq, e = .returned (.agg #[.int .i64 (scN x.sc), .bool x.done, .bool x.leav, .int .i64 x.flt.k, .string x.flt.s, .slice q x.op.length cq]) ∧ x.op.length ≤ cq ∧ cq ≤ maxLen ∧ LinksRow w w' (.slice q x.op.length cq) x.op := by
  obtain ⟨p, cap, e, h1, h2, -⟩ := (h.tk i x hx).form
  have HLN := Lib.hid (links_of h hl hx e)
  have hB := (h.tk i x hx).blk
  have hB1 := hB.alloc (.cells #[.int .i64 0, .bool false, .bool false, .int .i64 0, .string ⟨#[]⟩, .slice none 0 0] 52)
  have d1 := hB1.cell 1 _ rfl
  have d2 := hB1.cell 2 _ rfl
  have d3 := hB1.cell 3 _ rfl
  have d4 := hB1.cell 4 _ rfl
  have d5 := hB1.cell 5 _ rfl
  have d6 := hB1.cell 6 _ rfl
  have dl := hB1.lt
  rw [e] at d5
  have HB := Lib.hid hB1
  have HSC : Hid (∀ j, x.sc = some j → Blk w (L.sc j) (scC L j ((t.ss[j]?).getD (Tr.sc0 0 false)))) := Lib.hid fun j ej => by
    have hj := h.rng.sc i x j hx ej
    have := (h.sc j _ (List.getElem?_eq_getElem hj)).blk
    rw [List.getElem?_eq_getElem hj]; exact this
  have HLT := Lib.hid hB.lt
  obtain ⟨W0, hW0⟩ : ∃ W0, W0 = w.alloc (.cells #[.int .i64 0, .bool false, .bool false, .int .i64 0, .string ⟨#[]⟩, .slice none 0 0] 52) := ⟨_, rfl⟩
  have HW0 := Lib.hid hW0
  have bz := Blk.new w #[.int .i64 0, .bool false, .bool false, .int .i64 0, .string ⟨#[]⟩, .slice none 0 0] 52
  rw [← hW0] at bz d1 d2 d3 d4 d5 d6 dl HB
  have HBZ := Lib.hid bz
  have hbw : Below w.heap.size w W0 := by rw [hW0]; exact one _ _
  have HBW := Lib.hid hbw
  unfold tkP
  clear h hl hx e hB hB1 bz hbw
  go_enter Try.func64, Try.ntmps64
  go_wp2_with fail
  rw [← hW0]
  clear hW0
  have KS : ∀ Y, Below W0.heap.size W0 Y → Y.cell? ⟨L.tk i, 1, none⟩ = some (.bool x.done) ∧ Y.cell? ⟨L.tk i, 2, none⟩ = some (.int .i64 x.flt.k) ∧ Y.cell? ⟨L.tk i, 3, none⟩ = some (.string x.flt.s) ∧ Y.cell? ⟨L.tk i, 5, none⟩ = some (.slice p x.op.length cap) ∧ Y.cell? ⟨L.tk i, 6, none⟩ = some (.bool x.leav) ∧ Below W0.heap.size W0 Y := fun Y h =>
    ⟨cell_of h d1, cell_of h d2, cell_of h d3, cell_of h d5, cell_of h d6, h⟩
  have KH := Lib.hid KS
  have hB0 : Below W0.heap.size W0 W0.drew := Below.drew (Below.refl _ _)
  clear KS
  have LA : Hid (Calls Try.prog 97 #[.slice p x.op.length cap, .func (.func 66) #[] #[]] W0.drew fun e w' => ∃ q cq, e = .returned (.slice q x.op.length cq) ∧ Hid (x.op.length ≤ cq ∧ cq ≤ maxLen ∧ LinksRow W0 w' (.slice q x.op.length cq) x.op ∧ ∀ k, (Value.slice q x.op.length cq).ownBlock = some k → W0.heap.size < k ∨ k < w'.heap.size) ∧ Below W0.heap.size W0 w') := Lib.hid ((HLN.out W0.drew (HBW.out.trans (hB0.mono HBW.out.size))).mono fun e w' ⟨q, cq, h1, h2, h3, h4⟩ => ⟨q, cq, h1, ⟨h2, h3, ⟨h4.1, hB0.trans h4.2⟩, fun k e => .inr (h4.1.lt k e).2⟩, hB0.trans h4.2⟩)
  have LB : Hid (Calls Try.prog 97 #[.slice p x.op.length cap, .func (.func 66) #[] #[]] (W0.alloc (.cells #[.int .i64 0, .bool false, .bool false, .int .i64 0, .string ⟨#[]⟩, .slice none 0 0] 52)).drew fun e w' => ∃ q cq, e = .returned (.slice q x.op.length cq) ∧ Hid (x.op.length ≤ cq ∧ cq ≤ maxLen ∧ LinksRow W0 w' (.slice q x.op.length cq) x.op ∧ ∀ k, (Value.slice q x.op.length cq).ownBlock = some k → W0.heap.size < k) ∧ Below W0.heap.size W0 w' ∧
      w'.cell? ⟨W0.heap.size, 0, none⟩ = some (.int .i64 0) ∧ w'.cell? ⟨W0.heap.size, 1, none⟩ = some (.bool false) ∧ w'.cell? ⟨W0.heap.size, 2, none⟩ = some (.bool false) ∧ w'.cell? ⟨W0.heap.size, 3, none⟩ = some (.int .i64 0) ∧ w'.cell? ⟨W0.heap.size, 4, none⟩ = some (.string ⟨#[]⟩) ∧ w'.cell? ⟨W0.heap.size, 5, none⟩ = some (.slice none 0 0) ∧
      w'.frozen? ⟨W0.heap.size, 0, none⟩ = false ∧ w'.frozen? ⟨W0.heap.size, 1, none⟩ = false ∧ w'.frozen? ⟨W0.heap.size, 2, none⟩ = false ∧ w'.frozen? ⟨W0.heap.size, 3, none⟩ = false ∧ w'.frozen? ⟨W0.heap.size, 4, none⟩ = false ∧ w'.frozen? ⟨W0.heap.size, 5, none⟩ = false ∧ W0.heap.size < w'.heap.size ∧ Hid (Blk w' W0.heap.size [.int .i64 0, .bool false, .bool false, .int .i64 0, .string ⟨#[]⟩, .slice none 0 0])) := Lib.hid (by
    have hb1 : Below W0.heap.size W0 (W0.alloc (.cells #[.int .i64 0, .bool false, .bool false, .int .i64 0, .string ⟨#[]⟩, .slice none 0 0] 52)).drew := (one _ _).drew
    refine (HLN.out _ (HBW.out.trans (hb1.mono HBW.out.size))).mono fun e w' ⟨q, cq, h1, h2, h3, h4⟩ => ?_
    have hb2 := hb1.trans (h4.2.mono hb1.size)
    have hb6 := ((Blk.new W0 #[.int .i64 0, .bool false, .bool false, .int .i64 0, .string ⟨#[]⟩, .slice none 0 0] 52).drew).below h4.2 (Blk.new W0 #[.int .i64 0, .bool false, .bool false, .int .i64 0, .string ⟨#[]⟩, .slice none 0 0] 52).drew.lt
    refine ⟨q, cq, h1, ⟨h2, h3, ⟨?_, hb2⟩, fun k e => by have := (h4.1.lt k e).1; simp at this; omega⟩, hb2, hb6.cell 0 _ rfl, hb6.cell 1 _ rfl, hb6.cell 2 _ rfl, hb6.cell 3 _ rfl, hb6.cell 4 _ rfl, hb6.cell 5 _ rfl, hb6.fz 0, hb6.fz 1, hb6.fz 2, hb6.fz 3, hb6.fz 4, hb6.fz 5, hb6.lt, hb6⟩
    have := h4.1
    rcases this.2 with e0 | ⟨g, c0, cur, e1, hg, r⟩
    · exact ⟨this.1, .inl e0⟩
    · exact ⟨this.1, .inr ⟨g, c0, cur, e1, Nat.le_trans (by simp) hg, r⟩⟩)
  clear HLN
  go_region_held3 (fun Y => Y.cell? ⟨L.tk i, 1, none⟩ = some (.bool x.done) ∧ Y.cell? ⟨L.tk i, 2, none⟩ = some (.int .i64 x.flt.k) ∧ Y.cell? ⟨L.tk i, 3, none⟩ = some (.string x.flt.s) ∧ Y.cell? ⟨L.tk i, 5, none⟩ = some (.slice p x.op.length cap) ∧ Y.cell? ⟨L.tk i, 6, none⟩ = some (.bool x.leav) ∧ Below W0.heap.size W0 Y)
    (first | with_reducible exact KH.out _ hB0 | with_reducible exact KH.out _ hz5 | (refine KH.out _ ?_; (repeat (first | with_reducible exact hz5 | with_reducible exact Below.refl _ _ | with_reducible refine Below.drew ?_ | with_reducible refine Below.setCell ?_ (by first | exact zq | exact Nat.le_refl _ | (simp; done) | (simp; omega)) _ | with_reducible refine Below.alloc ?_ (by first | exact zq | exact Nat.le_refl _ | (simp; done) | (simp; omega)) _))))
    (first
      | (go_at_call 97; ((with_reducible refine LA.out.mono ?_); rintro e w5 ⟨q, cq, rfl, hq, hz5⟩; have zq := hz5.size))
      | (go_at_call 97; ((with_reducible refine LB.out.mono ?_); rintro e w5 ⟨q, cq, rfl, hq, hz5, b0, b1, b2, b3, b4, b5, f0, f1, f2, f3, f4, f5, bl, bk⟩; have zq := hz5.size)))
  · have H6 : Hid (Blk (w5.alloc (.cells #[.int .i64 0, .bool x.done, .bool x.leav, .int .i64 x.flt.k, .string x.flt.s, .slice q x.op.length cq] 52)) w5.heap.size [.int .i64 0, .bool x.done, .bool x.leav, .int .i64 x.flt.k, .string x.flt.s, .slice q x.op.length cq] ∧
        Below W0.heap.size W0 (w5.alloc (.cells #[.int .i64 0, .bool x.done, .bool x.leav, .int .i64 x.flt.k, .string x.flt.s, .slice q x.op.length cq] 52)) ∧ W0.heap.size ≤ w5.heap.size ∧
        (w5.alloc (.cells #[.int .i64 0, .bool x.done, .bool x.leav, .int .i64 x.flt.k, .string x.flt.s, .slice q x.op.length cq] 52)).ownsRow W0.heap.size 72 2 (.slice q x.op.length cq) x.op.length (x.op.flatMap lnC) ∧ ∀ k, (Value.slice q x.op.length cq).ownBlock = some k → k ≠ w5.heap.size) := Lib.hid
      ⟨Blk.new w5 #[.int .i64 0, .bool x.done, .bool x.leav, .int .i64 x.flt.k, .string x.flt.s, .slice q x.op.length cq] 52, hz5.alloc zq _, zq, hq.out.2.2.1.1.alloc _, fun k e => by have := (hq.out.2.2.1.1.lt k e).2; omega⟩
    have HQ := hq
    clear KH hB0 LA LB zq hz5 hq
    obtain ⟨B, hB⟩ : ∃ B, B = w5.heap.size := ⟨_, rfl⟩
    obtain ⟨W6, hW6⟩ : ∃ W6, W6 = w5.alloc (.cells #[.int .i64 0, .bool x.done, .bool x.leav, .int .i64 x.flt.k, .string x.flt.s, .slice q x.op.length cq] 52) := ⟨_, rfl⟩
    rw [← hW6, ← hB] at H6
    rw [← hW6, ← hB]
    clear hW6 hB
    obtain ⟨hb6, hbl6, hBge, hrow6, hne6⟩ := H6.out
    have n4 : W6.cell? ⟨L.tk i, 4, none⟩ = some (scP L x.sc) := cell_of hbl6 d4
    have nl : L.tk i < W6.heap.size := by have := hbl6.size; omega
    have g0 := hb6.cell 0 _ rfl
    have g1 := hb6.cell 1 _ rfl
    have g2 := hb6.cell 2 _ rfl
    have g3 := hb6.cell 3 _ rfl
    have g4 := hb6.cell 4 _ rfl
    have g5 := hb6.cell 5 _ rfl
    have gz := hb6.fz 0
    have gl := hb6.lt
    have bz6 := HBZ.out.below hbl6 HBZ.out.lt
    have z0 := bz6.cell 0 _ rfl
    have z1 := bz6.cell 1 _ rfl
    have z2 := bz6.cell 2 _ rfl
    have z3 := bz6.cell 3 _ rfl
    have z4 := bz6.cell 4 _ rfl
    have z5 := bz6.cell 5 _ rfl
    have y0 := bz6.fz 0
    have y1 := bz6.fz 1
    have y2 := bz6.fz 2
    have y3 := bz6.fz 3
    have y4 := bz6.fz 4
    have y5 := bz6.fz 5
    have zl := bz6.lt
    have hzl := HBZ.out.lt
    have hne : w.heap.size ≠ B := by omega
    have hne' : B ≠ w.heap.size := by omega
    have HW6 : Hid (Below w.heap.size w W6) := Lib.hid (HBW.out.trans (hbl6.mono HBW.out.size))
    have HROW6 := Lib.hid hrow6
    have HNE6 := Lib.hid hne6
    have HFIN : Hid (∀ W', Fr (fun k => k = B ∨ k = w.heap.size) W6 W' → LinksRow w W' (.slice q x.op.length cq) x.op) := Lib.hid fun W' hF => by
      have h1 := owns_fr HROW6.out hF fun k e hk => by
        rcases hk with hk | hk
        · exact HNE6.out k e hk
        · have := (HROW6.out.lt k e).1; omega
      refine ⟨⟨h1.1, ?_⟩, HW6.out.trans (hF.below (fun k hk => by rcases hk with hk | hk <;> omega) HW6.out.size)⟩
      rcases h1.2 with e0 | ⟨g, c0, cur, e1, hg, r⟩
      · exact .inl e0
      · exact .inr ⟨g, c0, cur, e1, by omega, r⟩
    have HSC6 : Hid (∀ j, x.sc = some j → W6.cell? ⟨L.sc j, 0, none⟩ = some (.int .i64 ((j : Int) + 1)) ∧ L.sc j < W6.heap.size) := Lib.hid fun j ej => by
      have h0 := (HSC.out j ej).below HW6.out (HSC.out j ej).lt
      exact ⟨h0.cell 0 _ rfl, h0.lt⟩
    clear hb6 hbl6 hrow6 hne6 bz6 H6
    have hcs : x.sc = none ∨ ∃ j, x.sc = some j := by cases x.sc <;> simp
    rcases hcs with hsc | ⟨j, hsc⟩
    · rw [hsc] at n4
      have HSN : Hid (scN x.sc = 0) := Lib.hid (by rw [hsc]; rfl)
      unfold scP at n4
      clear hsc
      go_wp2
      refine bodyPost_ret (v := .agg #[.int .i64 0, .bool x.done, .bool x.leav, .int .i64 x.flt.k, .string x.flt.s, .slice q x.op.length cq]) (by simp [results, Try.results64, go_sem, z0, z1, z2, z3, z4, z5, hne, hne']) rfl ⟨q, cq, by rw [HSN.out], HQ.out.1, HQ.out.2.1, HFIN.out _ ?_⟩
      repeat (first | with_reducible exact Fr.refl _ _ | (with_reducible refine Fr.at1 ?_ (.inr rfl) _ _) | (with_reducible refine Fr.at1 ?_ (.inl rfl) _ _))
    · obtain ⟨m0, ml⟩ := HSC6.out j hsc
      rw [hsc] at n4
      have HSN : Hid (scN x.sc = (j : Int) + 1) := Lib.hid (by rw [hsc]; rfl)
      unfold scP at n4
      clear hsc
      go_wp2
      refine bodyPost_ret (v := .agg #[.int .i64 ((j : Int) + 1), .bool x.done, .bool x.leav, .int .i64 x.flt.k, .string x.flt.s, .slice q x.op.length cq]) (by simp [results, Try.results64, go_sem, z0, z1, z2, z3, z4, z5, hne, hne']) rfl ⟨q, cq, by rw [HSN.out], HQ.out.1, HQ.out.2.1, HFIN.out _ ?_⟩
      repeat (first | with_reducible exact Fr.refl _ _ | (with_reducible refine Fr.at1 ?_ (.inr rfl) _ _) | (with_reducible refine Fr.at1 ?_ (.inl rfl) _ _))
  · have hb5 : Blk w5 W0.heap.size [.int .i64 0, .bool false, .bool false, .int .i64 0, .string ⟨#[]⟩, .slice none 0 0] := bk.out
    have hF : Fr (fun k => k = W0.heap.size) w5 ((((((w5.setCell ⟨W0.heap.size, 0, none⟩ (.int .i64 0)).setCell ⟨W0.heap.size, 1, none⟩ (.bool x.done)).setCell ⟨W0.heap.size, 2, none⟩ (.bool x.leav)).setCell ⟨W0.heap.size, 3, none⟩ (.int .i64 x.flt.k)).setCell ⟨W0.heap.size, 4, none⟩ (.string x.flt.s)).setCell ⟨W0.heap.size, 5, none⟩ (.slice q x.op.length cq)) := by
      exact ((((((Fr.refl (fun k => k = W0.heap.size) w5).at1 rfl 0 _).at1 rfl 1 _).at1 rfl 2 _).at1 rfl 3 _).at1 rfl 4 _).at1 rfl 5 _
    have H6 : Hid (Blk ((((((w5.setCell ⟨W0.heap.size, 0, none⟩ (.int .i64 0)).setCell ⟨W0.heap.size, 1, none⟩ (.bool x.done)).setCell ⟨W0.heap.size, 2, none⟩ (.bool x.leav)).setCell ⟨W0.heap.size, 3, none⟩ (.int .i64 x.flt.k)).setCell ⟨W0.heap.size, 4, none⟩ (.string x.flt.s)).setCell ⟨W0.heap.size, 5, none⟩ (.slice q x.op.length cq)) W0.heap.size [.int .i64 0, .bool x.done, .bool x.leav, .int .i64 x.flt.k, .string x.flt.s, .slice q x.op.length cq] ∧ Below W0.heap.size W0 ((((((w5.setCell ⟨W0.heap.size, 0, none⟩ (.int .i64 0)).setCell ⟨W0.heap.size, 1, none⟩ (.bool x.done)).setCell ⟨W0.heap.size, 2, none⟩ (.bool x.leav)).setCell ⟨W0.heap.size, 3, none⟩ (.int .i64 x.flt.k)).setCell ⟨W0.heap.size, 4, none⟩ (.string x.flt.s)).setCell ⟨W0.heap.size, 5, none⟩ (.slice q x.op.length cq)) ∧ W0.heap.size ≤ W0.heap.size ∧
        (((((((w5.setCell ⟨W0.heap.size, 0, none⟩ (.int .i64 0)).setCell ⟨W0.heap.size, 1, none⟩ (.bool x.done)).setCell ⟨W0.heap.size, 2, none⟩ (.bool x.leav)).setCell ⟨W0.heap.size, 3, none⟩ (.int .i64 x.flt.k)).setCell ⟨W0.heap.size, 4, none⟩ (.string x.flt.s)).setCell ⟨W0.heap.size, 5, none⟩ (.slice q x.op.length cq))).ownsRow W0.heap.size 72 2 (.slice q x.op.length cq) x.op.length (x.op.flatMap lnC) ∧ ∀ k, (Value.slice q x.op.length cq).ownBlock = some k → k ≠ W0.heap.size) := Lib.hid
      ⟨((((((hb5.set (o := 0) (by simp) (.int .i64 0)).set (o := 1) (by simp) (.bool x.done)).set (o := 2) (by simp) (.bool x.leav)).set (o := 3) (by simp) (.int .i64 x.flt.k)).set (o := 4) (by simp) (.string x.flt.s)).set (o := 5) (by simp) (.slice q x.op.length cq)),
        hz5.trans (hF.below (fun k e => by omega) zq), Nat.le_refl _, owns_fr hq.out.2.2.1.1 hF (fun k e e' => by have := hq.out.2.2.2 k e; omega), fun k e => by have := hq.out.2.2.2 k e; omega⟩
    have HQ := hq
    clear KH hB0 LA LB zq hz5 hq hb5 hF b0 b1 b2 b3 b4 b5 f0 f1 f2 f3 f4 f5 bl bk
    obtain ⟨B, hB⟩ : ∃ B, B = W0.heap.size := ⟨_, rfl⟩
    obtain ⟨W6, hW6⟩ : ∃ W6, W6 = ((((((w5.setCell ⟨W0.heap.size, 0, none⟩ (.int .i64 0)).setCell ⟨W0.heap.size, 1, none⟩ (.bool x.done)).setCell ⟨W0.heap.size, 2, none⟩ (.bool x.leav)).setCell ⟨W0.heap.size, 3, none⟩ (.int .i64 x.flt.k)).setCell ⟨W0.heap.size, 4, none⟩ (.string x.flt.s)).setCell ⟨W0.heap.size, 5, none⟩ (.slice q x.op.length cq)) := ⟨_, rfl⟩
    rw [← hW6] at H6
    rw [← hW6]
    have H6 : Hid (Blk W6 B [.int .i64 0, .bool x.done, .bool x.leav, .int .i64 x.flt.k, .string x.flt.s, .slice q x.op.length cq] ∧ Below W0.heap.size W0 W6 ∧ W0.heap.size ≤ B ∧ W6.ownsRow W0.heap.size 72 2 (.slice q x.op.length cq) x.op.length (x.op.flatMap lnC) ∧ ∀ k, (Value.slice q x.op.length cq).ownBlock = some k → k ≠ B) := by rw [hB]; exact H6
    rw [← hB]
    clear hW6 hB
    obtain ⟨hb6, hbl6, hBge, hrow6, hne6⟩ := H6.out
    have n4 : W6.cell? ⟨L.tk i, 4, none⟩ = some (scP L x.sc) := cell_of hbl6 d4
    have nl : L.tk i < W6.heap.size := by have := hbl6.size; omega
    have g0 := hb6.cell 0 _ rfl
    have g1 := hb6.cell 1 _ rfl
    have g2 := hb6.cell 2 _ rfl
    have g3 := hb6.cell 3 _ rfl
    have g4 := hb6.cell 4 _ rfl
    have g5 := hb6.cell 5 _ rfl
    have gz := hb6.fz 0
    have gl := hb6.lt
    have bz6 := HBZ.out.below hbl6 HBZ.out.lt
    have z0 := bz6.cell 0 _ rfl
    have z1 := bz6.cell 1 _ rfl
    have z2 := bz6.cell 2 _ rfl
    have z3 := bz6.cell 3 _ rfl
    have z4 := bz6.cell 4 _ rfl
    have z5 := bz6.cell 5 _ rfl
    have y0 := bz6.fz 0
    have y1 := bz6.fz 1
    have y2 := bz6.fz 2
    have y3 := bz6.fz 3
    have y4 := bz6.fz 4
    have y5 := bz6.fz 5
    have zl := bz6.lt
    have hzl := HBZ.out.lt
    have hne : w.heap.size ≠ B := by omega
    have hne' : B ≠ w.heap.size := by omega
    have HW6 : Hid (Below w.heap.size w W6) := Lib.hid (HBW.out.trans (hbl6.mono HBW.out.size))
    have HROW6 := Lib.hid hrow6
    have HNE6 := Lib.hid hne6
    have HFIN : Hid (∀ W', Fr (fun k => k = B ∨ k = w.heap.size) W6 W' → LinksRow w W' (.slice q x.op.length cq) x.op) := Lib.hid fun W' hF => by
      have h1 := owns_fr HROW6.out hF fun k e hk => by
        rcases hk with hk | hk
        · exact HNE6.out k e hk
        · have := (HROW6.out.lt k e).1; omega
      refine ⟨⟨h1.1, ?_⟩, HW6.out.trans (hF.below (fun k hk => by rcases hk with hk | hk <;> omega) HW6.out.size)⟩
      rcases h1.2 with e0 | ⟨g, c0, cur, e1, hg, r⟩
      · exact .inl e0
      · exact .inr ⟨g, c0, cur, e1, by omega, r⟩
    have HSC6 : Hid (∀ j, x.sc = some j → W6.cell? ⟨L.sc j, 0, none⟩ = some (.int .i64 ((j : Int) + 1)) ∧ L.sc j < W6.heap.size) := Lib.hid fun j ej => by
      have h0 := (HSC.out j ej).below HW6.out (HSC.out j ej).lt
      exact ⟨h0.cell 0 _ rfl, h0.lt⟩
    clear hb6 hbl6 hrow6 hne6 bz6 H6
    have hcs : x.sc = none ∨ ∃ j, x.sc = some j := by cases x.sc <;> simp
    rcases hcs with hsc | ⟨j, hsc⟩
    · rw [hsc] at n4
      have HSN : Hid (scN x.sc = 0) := Lib.hid (by rw [hsc]; rfl)
      unfold scP at n4
      clear hsc
      go_wp2
      refine bodyPost_ret (v := .agg #[.int .i64 0, .bool x.done, .bool x.leav, .int .i64 x.flt.k, .string x.flt.s, .slice q x.op.length cq]) (by simp [results, Try.results64, go_sem, z0, z1, z2, z3, z4, z5, hne, hne']) rfl ⟨q, cq, by rw [HSN.out], HQ.out.1, HQ.out.2.1, HFIN.out _ ?_⟩
      repeat (first | with_reducible exact Fr.refl _ _ | (with_reducible refine Fr.at1 ?_ (.inr rfl) _ _) | (with_reducible refine Fr.at1 ?_ (.inl rfl) _ _))
    · obtain ⟨m0, ml⟩ := HSC6.out j hsc
      rw [hsc] at n4
      have HSN : Hid (scN x.sc = (j : Int) + 1) := Lib.hid (by rw [hsc]; rfl)
      unfold scP at n4
      clear hsc
      go_wp2
      refine bodyPost_ret (v := .agg #[.int .i64 ((j : Int) + 1), .bool x.done, .bool x.leav, .int .i64 x.flt.k, .string x.flt.s, .slice q x.op.length cq]) (by simp [results, Try.results64, go_sem, z0, z1, z2, z3, z4, z5, hne, hne']) rfl ⟨q, cq, by rw [HSN.out], HQ.out.1, HQ.out.2.1, HFIN.out _ ?_⟩
      repeat (first | with_reducible exact Fr.refl _ _ | (with_reducible refine Fr.at1 ?_ (.inr rfl) _ _) | (with_reducible refine Fr.at1 ?_ (.inl rfl) _ _))
end
end Go.Proofs.Ytcegmdlmnibheaa
