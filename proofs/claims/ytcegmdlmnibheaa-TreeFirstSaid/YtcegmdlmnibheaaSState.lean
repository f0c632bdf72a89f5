/- The state of a scope. -/
import Derived.Test.YtcegmdlmnibheaaState
namespace Go.Proofs.Ytcegmdlmnibheaa
set_option linter.unusedVariables false
set_option linter.unusedSimpArgs false
open Go.RowKit
section
variable {w : World} {own : Own} {tb : Nat} {L : Lay} {t : Tr.T}
theorem nums_of (h : Rep w own tb L t) (hl : Lim t) {j : Nat} {y : Tr.Sc} (hy : t.ss[j]? = some y) {p : Option Addr} {cap : Nat} (e : L.kv j = .slice p y.tks.length cap) (W : World) (hW : Below w.heap.size w W) :
    Calls Try.prog 98 #[.slice p y.tks.length cap, .func (.func 99) #[] #[]] W fun e w' => ∃ q cq, e = .returned (.slice q y.tks.length cq) ∧ y.tks.length ≤ cq ∧ cq ≤ maxLen ∧ NumsRow W w' (.slice q y.tks.length cq) y.tks := by
  have hR := h.below hW
  obtain ⟨p', cap', e', h1, h2, h3⟩ := (hR.sc j y hy).form
  rw [e] at e'
  cases e'
  refine nums_any hR y.tks p cap (by have := hl.k j y hy; have := hl.n; omega) h1 (fun i hi => h.rng.tks j y i hy hi) fun k s hs => ?_
  obtain ⟨g, e2, hg, hc⟩ := h3 (by have := (List.getElem?_eq_some_iff.1 hs).1; omega)
  exact ⟨g, e2, hg, hc k s hs⟩
set_option maxRecDepth 100000 in
set_option maxHeartbeats 8000000 in
theorem sstate_any (h : Rep w own tb L t) (hl : Lim t) {j : Nat} {y : Tr.Sc} (hy : t.ss[j]? = some y) :
    Calls Try.prog 65 #[scP L (some j)] w fun e w' => ∃ q cq, e = .returned (.agg #[.int .i64 ((y.own : Int) + 1), .bool y.sup, .bool y.done, .slice q y.tks.length cq, .int .i64 y.flt.k, .string y.flt.s]) ∧ y.tks.length ≤ cq ∧ cq ≤ maxLen ∧ NumsRow w w' (.slice q y.tks.length cq) y.tks := by
  obtain ⟨p, cap, e, h1, h2, -⟩ := (h.sc j y hy).form
  have HLN := Lib.hid (nums_of h hl hy e)
  have hB := (h.sc j y hy).blk
  have hlt := hB.lt
  have hT := (h.tk y.own _ (List.getElem?_eq_getElem (h.rng.own j y hy))).blk
  have hltT := hT.lt
  have HSB := Lib.hid hB
  have HTB := Lib.hid hT
  obtain ⟨W0, hW0⟩ : ∃ W0, W0 = w.alloc (.cells #[.int .i64 0, .bool false, .bool false, .slice none 0 0, .int .i64 0, .string ⟨#[]⟩] 57) := ⟨_, rfl⟩
  have bz := Blk.new w #[.int .i64 0, .bool false, .bool false, .slice none 0 0, .int .i64 0, .string ⟨#[]⟩] 57
  rw [← hW0] at bz
  have HBZ := Lib.hid bz
  have hbw : Below w.heap.size w W0 := by rw [hW0]; exact one _ _
  have HBW := Lib.hid hbw
  have hzn := bz.lt
  have KS : ∀ Y, Below w.heap.size W0 Y → Y.cell? ⟨L.sc j, 1, none⟩ = some (.bool y.done) ∧ Y.cell? ⟨L.sc j, 2, none⟩ = some (.int .i64 y.flt.k) ∧ Y.cell? ⟨L.sc j, 3, none⟩ = some (.string y.flt.s) ∧ Y.cell? ⟨L.sc j, 4, none⟩ = some (.pointer (some ⟨L.tk y.own, 0, none⟩)) ∧ Y.cell? ⟨L.sc j, 5, none⟩ = some (.bool y.sup) ∧ Y.cell? ⟨L.sc j, 6, none⟩ = some (.slice p y.tks.length cap) ∧ Y.cell? ⟨L.tk y.own, 0, none⟩ = some (.int .i64 ((y.own : Int) + 1)) ∧ Below w.heap.size W0 Y := fun Y hY => by
    have b1 := HSB.out.below (hbw.trans hY) hlt
    have b2 := HTB.out.below (hbw.trans hY) hltT
    have c6 := b1.cell 6 _ rfl
    rw [e] at c6
    exact ⟨b1.cell 1 _ rfl, b1.cell 2 _ rfl, b1.cell 3 _ rfl, b1.cell 4 _ rfl, b1.cell 5 _ rfl, c6, b2.cell 0 _ rfl, hY⟩
  have KH := Lib.hid KS
  have hB0 : Below w.heap.size W0 W0.drew := Below.drew (Below.refl _ _)
  obtain ⟨d1, d2, d3, d4, d5, d6, d7, -⟩ := KS W0 (Below.refl _ _)
  have LA : Hid (Calls Try.prog 98 #[.slice p y.tks.length cap, .func (.func 99) #[] #[]] W0.drew fun e w' => ∃ q cq, e = .returned (.slice q y.tks.length cq) ∧ Hid (y.tks.length ≤ cq ∧ cq ≤ maxLen ∧ NumsRow W0 w' (.slice q y.tks.length cq) y.tks) ∧ Below w.heap.size W0 w' ∧
      w'.cell? ⟨w.heap.size, 0, none⟩ = some (.int .i64 0) ∧ w'.cell? ⟨w.heap.size, 1, none⟩ = some (.bool false) ∧ w'.cell? ⟨w.heap.size, 2, none⟩ = some (.bool false) ∧ w'.cell? ⟨w.heap.size, 3, none⟩ = some (.slice none 0 0) ∧ w'.cell? ⟨w.heap.size, 4, none⟩ = some (.int .i64 0) ∧ w'.cell? ⟨w.heap.size, 5, none⟩ = some (.string ⟨#[]⟩) ∧
      w'.frozen? ⟨w.heap.size, 0, none⟩ = false ∧ w'.frozen? ⟨w.heap.size, 1, none⟩ = false ∧ w'.frozen? ⟨w.heap.size, 2, none⟩ = false ∧ w'.frozen? ⟨w.heap.size, 3, none⟩ = false ∧ w'.frozen? ⟨w.heap.size, 4, none⟩ = false ∧ w'.frozen? ⟨w.heap.size, 5, none⟩ = false ∧ w.heap.size < w'.heap.size) := Lib.hid ((HLN.out W0.drew (hbw.trans hB0)).mono fun e w' ⟨q, cq, h1, h2, h3, h4⟩ => by
    have hb : Below W0.heap.size W0 w' := (Below.drew (Below.refl _ _)).trans h4.2
    have b := HBZ.out.below hb HBZ.out.lt
    exact ⟨q, cq, h1, ⟨h2, h3, h4.1, hb⟩, hb.mono hbw.size, b.cell 0 _ rfl, b.cell 1 _ rfl, b.cell 2 _ rfl, b.cell 3 _ rfl, b.cell 4 _ rfl, b.cell 5 _ rfl, b.fz 0, b.fz 1, b.fz 2, b.fz 3, b.fz 4, b.fz 5, b.lt⟩)
  unfold scP
  clear h hl hy e hB hT bz hbw KS HLN HSB HTB
  go_enter Try.func65, Try.ntmps65
  go_wp2_with fail
  rw [← hW0]
  clear hW0
  go_region_held3 (fun Y => Y.cell? ⟨L.sc j, 1, none⟩ = some (.bool y.done) ∧ Y.cell? ⟨L.sc j, 2, none⟩ = some (.int .i64 y.flt.k) ∧ Y.cell? ⟨L.sc j, 3, none⟩ = some (.string y.flt.s) ∧ Y.cell? ⟨L.sc j, 4, none⟩ = some (.pointer (some ⟨L.tk y.own, 0, none⟩)) ∧ Y.cell? ⟨L.sc j, 5, none⟩ = some (.bool y.sup) ∧ Y.cell? ⟨L.sc j, 6, none⟩ = some (.slice p y.tks.length cap) ∧ Y.cell? ⟨L.tk y.own, 0, none⟩ = some (.int .i64 ((y.own : Int) + 1)) ∧ Below w.heap.size W0 Y)
    (first | with_reducible exact KH.out _ hB0 | with_reducible exact KH.out _ hz5 | (refine KH.out _ ?_; (repeat (first | with_reducible exact hz5 | with_reducible exact Below.refl _ _ | with_reducible refine Below.drew ?_ | with_reducible refine Below.setCell ?_ (by first | exact Nat.le_refl _ | (simp; done) | (simp; omega)) _))))
    (first
      | (go_at_call 98; ((with_reducible refine LA.out.mono ?_); rintro e w5 ⟨q, cq, rfl, hq, hz5, b0, b1, b2, b3, b4, b5, f0, f1, f2, f3, f4, f5, bl⟩)))
  have HFIN : Hid (∀ W', Fr (fun k => k = w.heap.size) w5 W' → NumsRow w W' (.slice q y.tks.length cq) y.tks) := Lib.hid fun W' hF => by
    have h1 := owns_fr hq.out.2.2.1 hF fun k e hk => by have := (hq.out.2.2.1.lt k e).1; have := HBZ.out.lt; omega
    refine ⟨⟨h1.1, ?_⟩, (HBW.out.trans hz5).trans (hF.below (fun k hk => by omega) (by omega))⟩
    rcases h1.2 with e0 | ⟨g, c0, cur, e1, hg, r⟩
    · exact .inl e0
    · exact .inr ⟨g, c0, cur, e1, by have := HBZ.out.lt; omega, r⟩
  have HQ := hq
  clear KH hB0 LA hq hz5
  go_wp2
  refine bodyPost_ret (v := .agg #[.int .i64 ((y.own : Int) + 1), .bool y.sup, .bool y.done, .slice q y.tks.length cq, .int .i64 y.flt.k, .string y.flt.s]) (by simp [results, Try.results65, go_sem, b0, b1, b2, b3, b4, b5]) rfl ⟨q, cq, rfl, HQ.out.1, HQ.out.2.1, HFIN.out _ ?_⟩
  exact ((((((Fr.refl (fun k => k = w.heap.size) w5).at1 rfl 0 _).at1 rfl 1 _).at1 rfl 2 _).at1 rfl 3 _).at1 rfl 4 _).at1 rfl 5 _
end
end Go.Proofs.Ytcegmdlmnibheaa
