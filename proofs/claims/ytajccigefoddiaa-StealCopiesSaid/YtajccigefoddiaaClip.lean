/- What clipped and made do. -/
import Derived.Test.YtajccigefoddiaaKeep
namespace Go.Proofs.Ytajccigefoddiaa
set_option linter.unusedVariables false
set_option linter.unusedSimpArgs false
open Go.RowKit Go.Shelf
/-- A plan as an argument. -/
structure PlanIn (W : World) (r : Int) (p q : Option Addr) (cp cq : Nat) (lo lt : List Int) : Prop where
  h1 : lo.length ≤ cp
  h2 : cp ≤ maxLen
  h3 : lt.length ≤ cq
  h4 : cq ≤ maxLen
  n1 : NumsAt W p lo
  n2 : NumsAt W q lt
theorem PlanIn.below {W W' : World} {r : Int} {p q : Option Addr} {cp cq : Nat} {lo lt : List Int} (h : PlanIn W r p q cp cq lo lt) (hb : Below W.heap.size W W') : PlanIn W' r p q cp cq lo lt :=
  ⟨h.h1, h.h2, h.h3, h.h4, h.n1.below hb, h.n2.below hb⟩
def cloneP (w W : World) (l : List Int) (k : Nat) (e : Ending) (w' : World) : Prop := ∃ p cap, e = .returned (.slice p k cap) ∧ k ≤ cap ∧ cap ≤ maxLen ∧ NumsAt w' p l ∧ (Below W.heap.size W w' ∧ ∀ g off, p = some ⟨g, off, none⟩ → W.heap.size ≤ g) ∧ Below w.heap.size w w'
theorem frS {w1 W : World} {b : Nat} (h : Fr (fun k => k = b) w1 W) (o : Nat) (v : Value) : Fr (fun k => k = b) w1 (W.setCell ⟨b, o, none⟩ v) := h.trans (frA W b o v)
theorem NumsAt.take {W : World} {p : Option Addr} {l : List Int} (h : NumsAt W p l) (k : Nat) : NumsAt W p (l.take k) := fun hp => by
  rw [List.length_take] at hp
  obtain ⟨g, off, e, hg, hc⟩ := h (by omega)
  refine ⟨g, off, e, hg, fun j hj => ?_⟩
  rw [List.length_take] at hj
  rw [hc j (by omega), List.getD_eq_getElem?_getD, List.getD_eq_getElem?_getD, List.getElem?_take, if_pos (by omega)]
theorem cloneP_any {w W : World} (hW : Below w.heap.size w W) (p : Option Addr) (l : List Int) (k m cap : Nat) (hk : (l.take m).length = k) (hm : m ≤ 1000) (hp : NumsAt w p l) : Calls Try.prog 38 #[.slice p k cap] W (cloneP w W (l.take m) k) := by
  refine (clone_at W p k cap (l.take m) hk (by rw [List.length_take]; omega) ((hp.take m).below hW)).mono ?_
  rintro e w' ⟨q, c, rfl, h1, h2, h3, h4⟩
  rw [hk] at h1 ⊢
  exact ⟨q, c, rfl, h1, h2, nums_at h3, ⟨h4, fun g off e => (h3.lt g (by rw [e]; rfl)).1⟩, hW.trans (h4.mono hW.size)⟩
def planV (r : Int) (p q : Option Addr) (n m cp cq : Nat) : Value := .agg #[.int .i64 r, .slice p n cp, .slice q m cq]
def NewAt (w : World) (p q : Option Addr) : Prop := (∀ g off, p = some ⟨g, off, none⟩ → w.heap.size + 1 < g) ∧ ∀ g off, q = some ⟨g, off, none⟩ → w.heap.size + 1 < g
def clipPost (w : World) (r : Int) (lo lt : List Int) (e : Ending) (w' : World) : Prop :=
  ∃ p q cp cq, e = .returned (planV r p q (min lo.length 62) (min lt.length 10) cp cq) ∧ (PlanIn w' r p q cp cq (lo.take 62) (lt.take 10) ∧ NewAt w p q) ∧ Below w.heap.size w w'
/-- Behind the statement of clipped. -/
def ClipCut (w : World) (r : Int) (lo lt : List Int) (b2 : Nat) (wx : World) : Prop :=
  ∃ p q cp cq, Blk wx b2 [.int .i64 r, .slice p (min lo.length 62) cp, .slice q (min lt.length 10) cq] ∧ (PlanIn wx r p q cp cq (lo.take 62) (lt.take 10) ∧ NewAt w p q) ∧ Below w.heap.size w wx
set_option maxRecDepth 100000 in
set_option maxHeartbeats 4000000 in
theorem clipped_any (w : World) (r : Int) (p q : Option Addr) (cp cq : Nat) (lo lt : List Int) (h : PlanIn w r p q cp cq lo lt) : Calls Try.prog 13 #[planV r p q lo.length lt.length cp cq] w (clipPost w r lo lt) := by
  have HP := Lib.hid h
  obtain ⟨n, hn⟩ : ∃ n, n = lo.length := ⟨_, rfl⟩
  obtain ⟨m, hm⟩ : ∃ m, m = lt.length := ⟨_, rfl⟩
  obtain ⟨kn, hkn⟩ : ∃ kn, kn = min n 62 := ⟨_, rfl⟩
  obtain ⟨km, hkm⟩ : ∃ km, km = min m 10 := ⟨_, rfl⟩
  have hh1 := h.h1
  have hh2 := h.h2
  have hh3 := h.h3
  have hh4 := h.h4
  rw [← hn] at hh1
  rw [← hm] at hh3
  have e1 : (min (n : Int) 62) = (kn : Int) := by omega
  have e2 : (min (m : Int) 10) = (km : Int) := by omega
  have CA : Hid (∀ W, Below w.heap.size w W → Calls Try.prog 38 #[.slice p kn cp] W (cloneP w W (lo.take 62) kn)) := Lib.hid fun W hW => cloneP_any hW p lo kn 62 cp (by rw [List.length_take]; omega) (by omega) h.n1
  have CB : Hid (∀ W, Below w.heap.size w W → Calls Try.prog 38 #[.slice q km cq] W (cloneP w W (lt.take 10) km)) := Lib.hid fun W hW => cloneP_any hW q lt km 10 cq (by rw [List.length_take]; omega) (by omega) h.n2
  have hlo : (lo.take 62).length = kn := by rw [List.length_take]; omega
  have hlt : (lt.take 10).length = km := by rw [List.length_take]; omega
  unfold clipPost planV
  have HFIN : Hid (∀ wx, ClipCut w r lo lt (w.heap.size + 1) wx → ∃ p q cp cq, Blk wx (w.heap.size + 1) [.int .i64 r, .slice p kn cp, .slice q km cq] ∧ (PlanIn wx r p q cp cq (lo.take 62) (lt.take 10) ∧ NewAt w p q) ∧ Below w.heap.size w wx) := Lib.hid fun wx hc => by
    unfold ClipCut at hc
    rw [← hn, ← hm, ← hkn, ← hkm] at hc
    exact hc
  have HMAKE : Hid (∀ wx p q cp cq, Blk wx (w.heap.size + 1) [.int .i64 r, .slice p kn cp, .slice q km cq] → kn ≤ cp → cp ≤ maxLen → km ≤ cq → cq ≤ maxLen → NumsAt wx p (lo.take 62) → NumsAt wx q (lt.take 10) → NewAt w p q → Below w.heap.size w wx → ClipCut w r lo lt (w.heap.size + 1) wx) := Lib.hid fun wx p q cp cq h1 h2 h3 h4 h5 h6 h7 h9 h8 => by
    unfold ClipCut
    rw [← hn, ← hm, ← hkn, ← hkm]
    exact ⟨p, q, cp, cq, h1, ⟨⟨by rw [hlo]; exact h2, h3, by rw [hlt]; exact h4, h5, h6, h7⟩, h9⟩, h8⟩
  have hkn2 : kn ≤ n := by omega
  have hkm2 : km ≤ m := by omega
  rw [← hn, ← hm, ← hkn, ← hkm]
  have s1 : (0 : Int) ≤ (kn : Int) := by omega
  have s2 : (kn : Int) ≤ (cp : Int) := by omega
  have s3 : (0 : Int) ≤ (km : Int) := by omega
  have s4 : (km : Int) ≤ (cq : Int) := by omega
  have B1 : Hid (Blk (w.alloc (.cells #[.int .i64 r, .slice p n cp, .slice q m cq] 24)) w.heap.size [.int .i64 r, .slice p n cp, .slice q m cq]) := Lib.hid (Blk.new w _ _)
  have B2 : Hid (∀ o, Blk ((w.alloc o).alloc (.cells #[.int .i64 0, .slice none 0 0, .slice none 0 0] 24)) (w.heap.size + 1) [.int .i64 0, .slice none 0 0, .slice none 0 0]) := Lib.hid fun o => by
    have := Blk.new (w.alloc o) #[.int .i64 0, .slice none 0 0, .slice none 0 0] 24
    rwa [World.size_alloc] at this
  have B0 : Hid (Below w.heap.size w w) := Lib.hid (Below.refl _ _)
  unfold cloneP at CA CB
  clear h hn hm hkn hkm hlo hlt
  go_enter Try.func13, Try.ntmps13
  go_upto_region 1 with fail
  have HB1 := Lib.hid (B1.out.alloc (.cells #[.int .i64 0, .slice none 0 0, .slice none 0 0] 24))
  have HB2 := Lib.hid (B2.out (.cells #[.int .i64 r, .slice p n cp, .slice q m cq] 24))
  have HBW : Hid (Below w.heap.size w ((w.alloc (.cells #[.int .i64 r, .slice p n cp, .slice q m cq] 24)).alloc (.cells #[.int .i64 0, .slice none 0 0, .slice none 0 0] 24))) := Lib.hid (bAl (bAl (Below.refl _ _) _) _)
  obtain ⟨w1, hw1⟩ : ∃ w1, w1 = ((w.alloc (.cells #[.int .i64 r, .slice p n cp, .slice q m cq] 24)).alloc (.cells #[.int .i64 0, .slice none 0 0, .slice none 0 0] 24)) := ⟨_, rfl⟩
  rw [← hw1] at HB1 HB2 HBW ⊢
  clear hw1 B1 B2
  go_cut [] (fun wx => ClipCut w r lo lt (w.heap.size + 1) wx)
  case first =>
    have x0 := HB1.out.cell 0 _ rfl
    have x1 := HB1.out.cell 1 _ rfl
    have x2 := HB1.out.cell 2 _ rfl
    have y0 := HB2.out.cell 0 _ rfl
    have y1 := HB2.out.cell 1 _ rfl
    have y2 := HB2.out.cell 2 _ rfl
    have z0 := HB2.out.fz 0
    have z1 := HB2.out.fz 1
    have z2 := HB2.out.fz 2
    have hl1 := HB1.out.lt
    have hl2 := HB2.out.lt
    have D0 : Hid (Below w1.heap.size w1 w1) := Lib.hid (Below.refl _ _)
    have KS : Hid (∀ W, Fr (fun k => k = w.heap.size + 1) w1 W → (W.cell? ⟨w.heap.size, 0, none⟩ = some (.int .i64 r) ∧ W.cell? ⟨w.heap.size, 1, none⟩ = some (.slice p n cp) ∧ W.cell? ⟨w.heap.size, 2, none⟩ = some (.slice q m cq))) := Lib.hid fun W hW => ⟨(hW.cell (p := ⟨w.heap.size, 0, none⟩) hl1 (by simp)).trans x0, (hW.cell (p := ⟨w.heap.size, 1, none⟩) hl1 (by simp)).trans x1, (hW.cell (p := ⟨w.heap.size, 2, none⟩) hl1 (by simp)).trans x2⟩
    have KT : Hid (∀ W, Below w1.heap.size w1 W → W.cell? ⟨w.heap.size + 1, 0, none⟩ = some (.int .i64 0) ∧ W.cell? ⟨w.heap.size + 1, 1, none⟩ = some (.slice none 0 0) ∧ W.cell? ⟨w.heap.size + 1, 2, none⟩ = some (.slice none 0 0) ∧ W.frozen? ⟨w.heap.size + 1, 0, none⟩ = false ∧ W.frozen? ⟨w.heap.size + 1, 1, none⟩ = false ∧ W.frozen? ⟨w.heap.size + 1, 2, none⟩ = false ∧ w.heap.size + 1 < W.heap.size) := Lib.hid fun W hW => by
      have h := HB2.out.below hW HB2.out.lt
      exact ⟨h.cell 0 _ rfl, h.cell 1 _ rfl, h.cell 2 _ rfl, h.fz 0, h.fz 1, h.fz 2, h.lt⟩
    clear HFIN
    go_region_held3 (fun W' => W'.cell? ⟨w.heap.size, 0, none⟩ = some (.int .i64 r) ∧ W'.cell? ⟨w.heap.size, 1, none⟩ = some (.slice p n cp) ∧ W'.cell? ⟨w.heap.size, 2, none⟩ = some (.slice q m cq))
      (first | exact KS.out _ (by repeat (first | exact Fr.of_below D0.out | exact Fr.of_below DB.out | (with_reducible refine Fr.drew ?_) | (with_reducible refine frS ?_ _ _))) | go_keep)
      (first
        | (go_at_call 38; refine (CA.out _ (by repeat (first | exact HBW.out | exact EB.out | (with_reducible refine bDr ?_)))).mono ?_; rintro e w2 ⟨pa, ca, rfl, ha1, ha2, ha3, ⟨ha4, ha6⟩, ha5⟩; have HGA : Hid (∀ g off, pa = some ⟨g, off, none⟩ → w.heap.size + 1 < g) := Lib.hid (fun g off e => Nat.lt_of_lt_of_le hl2 (Nat.le_trans (by first | exact (bDr D0.out).size | exact DB.out.size) (ha6 g off e))); have EB := Lib.hid ha5; have DB := Lib.hid ((by first | exact bDr D0.out | exact DB.out : Below w1.heap.size w1 _).trans (ha4.mono (by first | exact (bDr D0.out).size | exact DB.out.size))); have HNA := Lib.hid ha3; obtain ⟨t0, t1, t2, f0, f1, f2, tl⟩ := KT.out _ DB.out; (try (have HNB := Lib.hid (HNB.out.below ha4))); clear ha3 ha4 ha5 ha6)
        | (go_at_call 38; refine (CB.out _ (by repeat (first | exact HBW.out | exact EB.out | (with_reducible refine bDr ?_)))).mono ?_; rintro e w2 ⟨pb, cb, rfl, hb1, hb2, hb3, ⟨hb4, hb6⟩, hb5⟩; have HGB : Hid (∀ g off, pb = some ⟨g, off, none⟩ → w.heap.size + 1 < g) := Lib.hid (fun g off e => Nat.lt_of_lt_of_le hl2 (Nat.le_trans (by first | exact (bDr D0.out).size | exact DB.out.size) (hb6 g off e))); have EB := Lib.hid hb5; have DB := Lib.hid ((by first | exact bDr D0.out | exact DB.out : Below w1.heap.size w1 _).trans (hb4.mono (by first | exact (bDr D0.out).size | exact DB.out.size))); have HNB := Lib.hid hb3; obtain ⟨t0, t1, t2, f0, f1, f2, tl⟩ := KT.out _ DB.out; (try (have HNA := Lib.hid (HNA.out.below hb4))); clear hb3 hb4 hb5 hb6))
    all_goals (go_wp2_with fail; go_meet)
    all_goals exact HMAKE.out _ _ _ _ _ (((((HB2.out.below DB.out HB2.out.lt).set (o := 0) (by simp) (.int .i64 r)).set (o := 1) (by simp) (.slice pa kn ca)).set (o := 2) (by simp) (.slice pb km cb))) ha1 ha2 hb1 hb2 (HNA.out.fr (((frA _ (w.heap.size + 1) 0 (.int .i64 r)).trans (frA _ _ 1 _)).trans (frA _ _ 2 _)) (fun g off e hg => by have := HGA.out g off e; omega)) (HNB.out.fr (((frA _ (w.heap.size + 1) 0 (.int .i64 r)).trans (frA _ _ 1 _)).trans (frA _ _ 2 _)) (fun g off e hg => by have := HGB.out g off e; omega)) ⟨HGA.out, HGB.out⟩ (bSt (bSt (bSt EB.out (by omega) _ _) (by omega) _ _) (by omega) _ _)
  case rest =>
    obtain ⟨p2, q2, cp2, cq2, hB, hP, hb⟩ := HFIN.out _ hcut
    have r0 := hB.cell 0 _ rfl
    have r1 := hB.cell 1 _ rfl
    have r2 := hB.cell 2 _ rfl
    have hl := hB.lt
    have HPP := Lib.hid hP
    have HBB := Lib.hid hb
    clear hB hP hb HMAKE
    go_wp2
    refine bodyPost_ret (v := .agg #[.int .i64 r, .slice p2 kn cp2, .slice q2 km cq2]) (by simp [results, Try.f13, go_sem, r0, r1, r2]) rfl ?_
    exact ⟨p2, q2, cp2, cq2, rfl, HPP.out, HBB.out⟩
end Go.Proofs.Ytajccigefoddiaa
