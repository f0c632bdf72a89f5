/- What made does. -/
import Derived.Test.YtajccigefoddiaaClip
namespace Go.Proofs.Ytajccigefoddiaa
set_option linter.unusedVariables false
set_option linter.unusedSimpArgs false
open Go.RowKit Go.Shelf
theorem newPost.from_ {w w1 w2 : World} {r : Int} {lo lt : List Int} {e : Ending} (hb : Below w.heap.size w w1) (h : newPost w1 r lo lt e w2) : newPost w r lo lt e w2 := by
  unfold newPost at h ⊢
  split
  · rename_i hc
    rw [if_pos hc] at h
    obtain ⟨rb, cb, own, ab, cap, e1, hO⟩ := h
    exact ⟨rb, cb, own, ab, cap, e1, ⟨hO.rep, fun k r e => Nat.le_trans hb.size (hO.ge k r e), hb.trans (hO.bel.mono hb.size)⟩⟩
  · rename_i hc
    rw [if_neg hc] at h
    exact ⟨h.1, hb.trans (h.2.mono hb.size)⟩
set_option maxRecDepth 100000 in
set_option maxHeartbeats 4000000 in
theorem made_core (w : World) (r : Int) (p q : Option Addr) (n m kn km cp cq : Nat) (Q : World → Ending → World → Prop) (R : World → Option Addr → Option Addr → Nat → Nat → Prop)
    (C : Hid (∀ o, Calls Try.prog 13 #[.agg #[.int .i64 r, .slice p n cp, .slice q m cq]] (w.alloc o) fun e w' => ∃ p q cp cq, e = .returned (.agg #[.int .i64 r, .slice p kn cp, .slice q km cq]) ∧ R w' p q cp cq ∧ Below (w.alloc o).heap.size (w.alloc o) w'))
    (NR : Hid (∀ W0 W p q cp cq, R W0 p q cp cq → Below w.heap.size w W0 → Fr (fun k => k = w.heap.size) W0 W → Calls Try.prog 37 #[.int .i64 r, .slice p kn cp, .slice q km cq] W (fun e w' => (∃ a y, e = .returned (.tuple #[.pointer a, .int .i64 y])) ∧ Q w e w'))) :
    Calls Try.prog 12 #[.agg #[.int .i64 r, .slice p n cp, .slice q m cq]] w (Q w) := by
  have HB1 := Lib.hid (Blk.new w #[.int .i64 r, .slice p n cp, .slice q m cq] 24)
  have C1 := Lib.hid (C.out (.cells #[.int .i64 r, .slice p n cp, .slice q m cq] 24))
  have HN := Lib.hid (one w (.cells #[.int .i64 r, .slice p n cp, .slice q m cq] 24))
  clear C
  go_enter Try.func12, Try.ntmps12
  go_wp2_with fail
  refine C1.out.mono ?_
  rintro e w2 ⟨p2, q2, cp2, cq2, rfl, hP, hb⟩
  have hB2 := HB1.out.below hb HB1.out.lt
  have HB2 := Lib.hid hB2
  have x0 := hB2.cell 0 _ rfl
  have x1 := hB2.cell 1 _ rfl
  have x2 := hB2.cell 2 _ rfl
  have z0 := hB2.fz 0
  have z1 := hB2.fz 1
  have z2 := hB2.fz 2
  have hl := hB2.lt
  have N := Lib.hid (NR.out w2 (((w2.setCell ⟨w.heap.size, 0, none⟩ (.int .i64 r)).setCell ⟨w.heap.size, 1, none⟩ (.slice p2 kn cp2)).setCell ⟨w.heap.size, 2, none⟩ (.slice q2 km cq2)) p2 q2 cp2 cq2 hP (HN.out.trans (hb.mono HN.out.size)) (frS (frS (frA w2 w.heap.size 0 _) _ _) _ _))
  clear hB2 hP hb C1 NR HB1 HN HB2
  go_wp2_with fail
  refine N.out.mono ?_
  rintro e w3 ⟨⟨a, y, rfl⟩, hq⟩
  have HQ := Lib.hid hq
  clear hq N
  go_wp2
  exact HQ.out
theorem made_any (w : World) (r : Int) (p q : Option Addr) (cp cq : Nat) (lo lt : List Int) (h : PlanIn w r p q cp cq lo lt) : Calls Try.prog 12 #[planV r p q lo.length lt.length cp cq] w (newPost w r (lo.take 62) (lt.take 10)) := by
  have hlo : (lo.take 62).length = min lo.length 62 := by rw [List.length_take]; omega
  have hlt : (lt.take 10).length = min lt.length 10 := by rw [List.length_take]; omega
  refine made_core w r p q lo.length lt.length (min lo.length 62) (min lt.length 10) cp cq (fun w e w' => newPost w r (lo.take 62) (lt.take 10) e w') (fun W p q cp cq => PlanIn W r p q cp cq (lo.take 62) (lt.take 10) ∧ (∀ g off, p = some ⟨g, off, none⟩ → w.heap.size < g) ∧ ∀ g off, q = some ⟨g, off, none⟩ → w.heap.size < g) (Lib.hid fun o => ?_) (Lib.hid fun W0 W p q cp cq hp hb hF => ?_)
  · refine (clipped_any (w.alloc o) r p q cp cq lo lt (h.below (one _ _))).mono fun e w' h => ?_
    obtain ⟨p2, q2, c1, c2, e1, hP, hb⟩ := h
    exact ⟨p2, q2, c1, c2, e1, ⟨hP.1, fun g off e => by have := hP.2.1 g off e; simp at this; omega, fun g off e => by have := hP.2.2 g off e; simp at this; omega⟩, hb⟩
  · have := newRace_any W r p q cp cq _ _ (by rw [hlo]; omega) (by rw [hlt]; omega) (hp.1.n1.fr hF (fun g off e hg => by have := hp.2.1 g off e; omega)) (hp.1.n2.fr hF (fun g off e hg => by have := hp.2.2 g off e; omega))
    rw [hlo, hlt] at this
    have hbW : Below w.heap.size w W := hb.trans (hF.below (fun x hx => by omega) hb.size)
    refine this.mono fun e w' h => ⟨?_, h.from_ hbW⟩
    unfold newPost at h
    split at h
    · obtain ⟨rb, cb, own, ab, cap, e1, hO⟩ := h
      exact ⟨_, _, e1⟩
    · exact ⟨_, _, h.1⟩
end Go.Proofs.Ytajccigefoddiaa
