/- What clipped does: the owner's row is its own, and apart from the thieves'. -/
import Derived.Test.YtajccigefoddiaaClip
namespace Go.Proofs.Ytajccigefoddiaa
set_option linter.unusedVariables false
set_option linter.unusedSimpArgs false
open Go.RowKit Go.Shelf
def ApartAt (p q : Option Addr) (l m : List Int) : Prop := 0 < l.length → 0 < m.length → ∀ g off g' off', p = some ⟨g, off, none⟩ → q = some ⟨g', off', none⟩ → g ≠ g'
def cloneP2 (w W : World) (l : List Int) (k : Nat) (e : Ending) (w' : World) : Prop := ∃ p cap, e = .returned (.slice p k cap) ∧ k ≤ cap ∧ cap ≤ maxLen ∧ NumsAt w' p l ∧ (Below W.heap.size W w' ∧ w'.ownsRow W.heap.size 3 1 (.slice p k cap) k (ints l)) ∧ Below w.heap.size w w'
theorem cloneP2_any {w W : World} (hW : Below w.heap.size w W) (p : Option Addr) (l : List Int) (k m cap : Nat) (hk : (l.take m).length = k) (hm : m ≤ 1000) (hp : NumsAt w p l) : Calls Try.prog 38 #[.slice p k cap] W (cloneP2 w W (l.take m) k) := by
  refine (clone_at W p k cap (l.take m) hk (by rw [List.length_take]; omega) ((hp.take m).below hW)).mono ?_
  rintro e w' ⟨q, c, rfl, h1, h2, h3, h4⟩
  rw [hk] at h1 h3 ⊢
  exact ⟨q, c, rfl, h1, h2, nums_at (by rw [hk]; exact h3), ⟨h4, h3⟩, hW.trans (h4.mono hW.size)⟩
theorem NumsAt.lt {W : World} {p : Option Addr} {l : List Int} (h : NumsAt W p l) (h0 : 0 < l.length) {g off : Nat} (e : p = some ⟨g, off, none⟩) : g < W.heap.size := by
  obtain ⟨g', off', e', hg, _⟩ := h h0
  rw [e] at e'; cases e'; exact hg
/-- What clipped leaves: base is where the memory of the call begins. -/
structure Ins (base : Nat) (wx : World) (r : Int) (p q : Option Addr) (cp cq : Nat) (lo lt : List Int) : Prop where
  pl : PlanIn wx r p q cp cq lo lt
  own : wx.ownsRow base 3 1 (.slice p lo.length cp) lo.length (ints lo)
  gq : ∀ g off, q = some ⟨g, off, none⟩ → base ≤ g
  ap : ApartAt p q lo lt
theorem owns_base {W : World} {b b' n sz : Nat} {t : TypeId} {v : Value} {xs : List Value} (h : W.ownsRow b t sz v n xs) (hb : b' ≤ b) : W.ownsRow b' t sz v n xs := by
  refine ⟨h.1, ?_⟩
  rcases h.2 with h0 | ⟨g, cap, cur, e, hbg, hg, r⟩
  · exact .inl h0
  · exact .inr ⟨g, cap, cur, e, Nat.le_trans hb hbg, hg, r⟩
theorem owns_at {W : World} {b n sz cap : Nat} {t : TypeId} {p : Option Addr} {xs : List Value} (h : W.ownsRow b t sz (.slice p n cap) n xs) {g off : Nat} (e : p = some ⟨g, off, none⟩) : b ≤ g ∧ g < W.heap.size := by
  subst e
  exact h.lt g rfl
theorem apart_1 {W W' : World} {b n cap : Nat} {p q : Option Addr} {l m : List Int} {xs : List Value} (hn : NumsAt W q m) (h : W'.ownsRow b 3 1 (.slice p n cap) n xs) (hb : W.heap.size ≤ b) : ApartAt p q l m := fun h1 h2 g off g' off' e e' hg => by
  have a1 := hn.lt h2 e'
  have a2 := (owns_at h e).1
  omega
theorem apart_2 {W W' : World} {b n cap : Nat} {p q : Option Addr} {l m : List Int} {xs : List Value} (hn : NumsAt W p l) (h : W'.ownsRow b 3 1 (.slice q n cap) n xs) (hb : W.heap.size ≤ b) : ApartAt p q l m := fun h1 h2 g off g' off' e e' hg => by
  have a1 := hn.lt h1 e
  have a2 := (owns_at h e').1
  omega
def clipPost2 (w : World) (r : Int) (lo lt : List Int) (e : Ending) (w' : World) : Prop :=
  ∃ p q cp cq, e = .returned (planV r p q (min lo.length 62) (min lt.length 10) cp cq) ∧ Ins (w.heap.size + 2) w' r p q cp cq (lo.take 62) (lt.take 10) ∧ Below w.heap.size w w'
def ClipCut2 (w : World) (r : Int) (lo lt : List Int) (b2 : Nat) (wx : World) : Prop :=
  ∃ p q cp cq, Blk wx b2 [.int .i64 r, .slice p (min lo.length 62) cp, .slice q (min lt.length 10) cq] ∧ Ins (w.heap.size + 2) wx r p q cp cq (lo.take 62) (lt.take 10) ∧ Below w.heap.size w wx
set_option maxRecDepth 100000 in
set_option maxHeartbeats 4000000 in
theorem clipped2_any (w : World) (r : Int) (p q : Option Addr) (cp cq : Nat) (lo lt : List Int) (h : PlanIn w r p q cp cq lo lt) : Calls Try.prog 13 #[planV r p q lo.length lt.length cp cq] w (clipPost2 w r lo lt) := by
  have HP := Lib.hid h
  obtain ⟨n, hn⟩ : ∃ n, n = lo.length := ⟨_, rfl⟩
  obtain ⟨m, hm⟩ : ∃ m, m = lt.length := ⟨_, rfl⟩
  obtain ⟨kn, hkn⟩ : ∃ kn, kn = min n 62 := ⟨_, rfl⟩
  obtain ⟨km, hkm⟩ : ∃ km, km = min m 10 := ⟨_, rfl⟩
  have hh1 := h.h1
  have hh2 := h.h2
  have hh3 := h.h3
  have hh4 := h.h4
  rw [← hn] at hh1
  rw [← hm] at hh3
  have e1 : (min (n : Int) 62) = (kn : Int) := by omega
  have e2 : (min (m : Int) 10) = (km : Int) := by omega
  have CA : Hid (∀ W, Below w.heap.size w W → Calls Try.prog 38 #[.slice p kn cp] W (cloneP2 w W (lo.take 62) kn)) := Lib.hid fun W hW => cloneP2_any hW p lo kn 62 cp (by rw [List.length_take]; omega) (by omega) h.n1
  have CB : Hid (∀ W, Below w.heap.size w W → Calls Try.prog 38 #[.slice q km cq] W (cloneP2 w W (lt.take 10) km)) := Lib.hid fun W hW => cloneP2_any hW q lt km 10 cq (by rw [List.length_take]; omega) (by omega) h.n2
  have hlo : (lo.take 62).length = kn := by rw [List.length_take]; omega
  have hlt : (lt.take 10).length = km := by rw [List.length_take]; omega
  unfold clipPost2 planV
  have HFIN : Hid (∀ wx, ClipCut2 w r lo lt (w.heap.size + 1) wx → ∃ p q cp cq, Blk wx (w.heap.size + 1) [.int .i64 r, .slice p kn cp, .slice q km cq] ∧ Ins (w.heap.size + 2) wx r p q cp cq (lo.take 62) (lt.take 10) ∧ Below w.heap.size w wx) := Lib.hid fun wx hc => by
    unfold ClipCut2 at hc
    rw [← hn, ← hm, ← hkn, ← hkm] at hc
    exact hc
  have HMAKE : Hid (∀ wx p q cp cq, Blk wx (w.heap.size + 1) [.int .i64 r, .slice p kn cp, .slice q km cq] → kn ≤ cp → cp ≤ maxLen → km ≤ cq → cq ≤ maxLen → NumsAt wx p (lo.take 62) → NumsAt wx q (lt.take 10) → wx.ownsRow (w.heap.size + 2) 3 1 (.slice p kn cp) kn (ints (lo.take 62)) → (∀ g off, q = some ⟨g, off, none⟩ → w.heap.size + 2 ≤ g) → ApartAt p q (lo.take 62) (lt.take 10) → Below w.heap.size w wx → ClipCut2 w r lo lt (w.heap.size + 1) wx) := Lib.hid fun wx p q cp cq h1 h2 h3 h4 h5 h6 h7 h9 h10 h11 h8 => by
    unfold ClipCut2
    rw [← hn, ← hm, ← hkn, ← hkm]
    exact ⟨p, q, cp, cq, h1, ⟨⟨by rw [hlo]; exact h2, h3, by rw [hlt]; exact h4, h5, h6, h7⟩, by rw [hlo]; exact h9, h10, h11⟩, h8⟩
  have hkn2 : kn ≤ n := by omega
  have hkm2 : km ≤ m := by omega
  rw [← hn, ← hm, ← hkn, ← hkm]
  have s1 : (0 : Int) ≤ (kn : Int) := by omega
  have s2 : (kn : Int) ≤ (cp : Int) := by omega
  have s3 : (0 : Int) ≤ (km : Int) := by omega
  have s4 : (km : Int) ≤ (cq : Int) := by omega
  have B1 : Hid (Blk (w.alloc (.cells #[.int .i64 r, .slice p n cp, .slice q m cq] 24)) w.heap.size [.int .i64 r, .slice p n cp, .slice q m cq]) := Lib.hid (Blk.new w _ _)
  have B2 : Hid (∀ o, Blk ((w.alloc o).alloc (.cells #[.int .i64 0, .slice none 0 0, .slice none 0 0] 24)) (w.heap.size + 1) [.int .i64 0, .slice none 0 0, .slice none 0 0]) := Lib.hid fun o => by
    have := Blk.new (w.alloc o) #[.int .i64 0, .slice none 0 0, .slice none 0 0] 24
    rwa [World.size_alloc] at this
  have B0 : Hid (Below w.heap.size w w) := Lib.hid (Below.refl _ _)
  unfold cloneP2 at CA CB
  clear h hn hm hkn hkm hlo hlt
  go_enter Try.func13, Try.ntmps13
  go_upto_region 1 with fail
  have HB1 := Lib.hid (B1.out.alloc (.cells #[.int .i64 0, .slice none 0 0, .slice none 0 0] 24))
  have HB2 := Lib.hid (B2.out (.cells #[.int .i64 r, .slice p n cp, .slice q m cq] 24))
  have HBW : Hid (Below w.heap.size w ((w.alloc (.cells #[.int .i64 r, .slice p n cp, .slice q m cq] 24)).alloc (.cells #[.int .i64 0, .slice none 0 0, .slice none 0 0] 24))) := Lib.hid (bAl (bAl (Below.refl _ _) _) _)
  obtain ⟨w1, hw1⟩ : ∃ w1, w1 = ((w.alloc (.cells #[.int .i64 r, .slice p n cp, .slice q m cq] 24)).alloc (.cells #[.int .i64 0, .slice none 0 0, .slice none 0 0] 24)) := ⟨_, rfl⟩
  have hsz1 : w.heap.size + 2 ≤ w1.heap.size := by rw [hw1]; simp
  rw [← hw1] at HB1 HB2 HBW ⊢
  clear hw1 B1 B2
  go_cut [] (fun wx => ClipCut2 w r lo lt (w.heap.size + 1) wx)
  case first =>
    have x0 := HB1.out.cell 0 _ rfl
    have x1 := HB1.out.cell 1 _ rfl
    have x2 := HB1.out.cell 2 _ rfl
    have y0 := HB2.out.cell 0 _ rfl
    have y1 := HB2.out.cell 1 _ rfl
    have y2 := HB2.out.cell 2 _ rfl
    have z0 := HB2.out.fz 0
    have z1 := HB2.out.fz 1
    have z2 := HB2.out.fz 2
    have hl1 := HB1.out.lt
    have hl2 := HB2.out.lt
    have D0 : Hid (Below w1.heap.size w1 w1) := Lib.hid (Below.refl _ _)
    have KS : Hid (∀ W, Fr (fun k => k = w.heap.size + 1) w1 W → (W.cell? ⟨w.heap.size, 0, none⟩ = some (.int .i64 r) ∧ W.cell? ⟨w.heap.size, 1, none⟩ = some (.slice p n cp) ∧ W.cell? ⟨w.heap.size, 2, none⟩ = some (.slice q m cq))) := Lib.hid fun W hW => ⟨(hW.cell (p := ⟨w.heap.size, 0, none⟩) hl1 (by simp)).trans x0, (hW.cell (p := ⟨w.heap.size, 1, none⟩) hl1 (by simp)).trans x1, (hW.cell (p := ⟨w.heap.size, 2, none⟩) hl1 (by simp)).trans x2⟩
    have KT : Hid (∀ W, Below w1.heap.size w1 W → W.cell? ⟨w.heap.size + 1, 0, none⟩ = some (.int .i64 0) ∧ W.cell? ⟨w.heap.size + 1, 1, none⟩ = some (.slice none 0 0) ∧ W.cell? ⟨w.heap.size + 1, 2, none⟩ = some (.slice none 0 0) ∧ W.frozen? ⟨w.heap.size + 1, 0, none⟩ = false ∧ W.frozen? ⟨w.heap.size + 1, 1, none⟩ = false ∧ W.frozen? ⟨w.heap.size + 1, 2, none⟩ = false ∧ w.heap.size + 1 < W.heap.size) := Lib.hid fun W hW => by
      have h := HB2.out.below hW HB2.out.lt
      exact ⟨h.cell 0 _ rfl, h.cell 1 _ rfl, h.cell 2 _ rfl, h.fz 0, h.fz 1, h.fz 2, h.lt⟩
    have HSZ : Hid (w.heap.size + 2 ≤ w1.heap.size) := Lib.hid hsz1
    clear HFIN hsz1
    go_region_held3 (fun W' => W'.cell? ⟨w.heap.size, 0, none⟩ = some (.int .i64 r) ∧ W'.cell? ⟨w.heap.size, 1, none⟩ = some (.slice p n cp) ∧ W'.cell? ⟨w.heap.size, 2, none⟩ = some (.slice q m cq))
      (first | exact KS.out _ (by repeat (first | exact Fr.of_below D0.out | exact Fr.of_below DB.out | (with_reducible refine Fr.drew ?_) | (with_reducible refine frS ?_ _ _))) | go_keep)
      (first
        | (go_at_call 38; refine (CA.out _ (by repeat (first | exact HBW.out | exact EB.out | (with_reducible refine bDr ?_)))).mono ?_; rintro e w2 ⟨pa, ca, rfl, ha1, ha2, ha3, ⟨ha4, ha6⟩, ha5⟩; have HOA := Lib.hid (owns_base ha6 (show w.heap.size + 2 ≤ _ from Nat.le_trans HSZ.out (by first | exact (bDr D0.out).size | exact DB.out.size))); (try (have HAP : Hid (ApartAt pa pb (lo.take 62) (lt.take 10)) := Lib.hid (apart_1 HNB.out ha6 (Nat.le_refl _)))); have EB := Lib.hid ha5; have DB := Lib.hid ((by first | exact bDr D0.out | exact DB.out : Below w1.heap.size w1 _).trans (ha4.mono (by first | exact (bDr D0.out).size | exact DB.out.size))); have HNA := Lib.hid ha3; obtain ⟨t0, t1, t2, f0, f1, f2, tl⟩ := KT.out _ DB.out; (try (have HNB := Lib.hid (HNB.out.below ha4))); clear ha3 ha4 ha5 ha6)
        | (go_at_call 38; refine (CB.out _ (by repeat (first | exact HBW.out | exact EB.out | (with_reducible refine bDr ?_)))).mono ?_; rintro e w2 ⟨pb, cb, rfl, hb1, hb2, hb3, ⟨hb4, hb6⟩, hb5⟩; have HGB : Hid (∀ g off, pb = some ⟨g, off, none⟩ → w.heap.size + 2 ≤ g) := Lib.hid (fun g off e => Nat.le_trans HSZ.out (Nat.le_trans (by first | exact (bDr D0.out).size | exact DB.out.size) (owns_at hb6 e).1)); (try (have HAP : Hid (ApartAt pa pb (lo.take 62) (lt.take 10)) := Lib.hid (apart_2 HNA.out hb6 (Nat.le_refl _)))); (try (have HOA := Lib.hid (owns_fr (S := none_) HOA.out (Fr.of_below hb4) (fun _ _ h => h)))); have EB := Lib.hid hb5; have DB := Lib.hid ((by first | exact bDr D0.out | exact DB.out : Below w1.heap.size w1 _).trans (hb4.mono (by first | exact (bDr D0.out).size | exact DB.out.size))); have HNB := Lib.hid hb3; obtain ⟨t0, t1, t2, f0, f1, f2, tl⟩ := KT.out _ DB.out; (try (have HNA := Lib.hid (HNA.out.below hb4))); clear hb3 hb4 hb5 hb6))
    all_goals (go_wp2_with fail; go_meet)
    all_goals exact HMAKE.out _ _ _ _ _ (((((HB2.out.below DB.out HB2.out.lt).set (o := 0) (by simp) (.int .i64 r)).set (o := 1) (by simp) (.slice pa kn ca)).set (o := 2) (by simp) (.slice pb km cb))) ha1 ha2 hb1 hb2 (HNA.out.fr (((frA _ (w.heap.size + 1) 0 (.int .i64 r)).trans (frA _ _ 1 _)).trans (frA _ _ 2 _)) (fun g off e hg => by have := (owns_at HOA.out e).1; omega)) (HNB.out.fr (((frA _ (w.heap.size + 1) 0 (.int .i64 r)).trans (frA _ _ 1 _)).trans (frA _ _ 2 _)) (fun g off e hg => by have := HGB.out g off e; omega)) (owns_fr HOA.out (((frA _ (w.heap.size + 1) 0 (.int .i64 r)).trans (frA _ _ 1 _)).trans (frA _ _ 2 _)) (fun k e hk => by have := (HOA.out.lt k e).1; omega)) HGB.out HAP.out (bSt (bSt (bSt EB.out (by omega) _ _) (by omega) _ _) (by omega) _ _)
  case rest =>
    obtain ⟨p2, q2, cp2, cq2, hB, hP, hb⟩ := HFIN.out _ hcut
    have r0 := hB.cell 0 _ rfl
    have r1 := hB.cell 1 _ rfl
    have r2 := hB.cell 2 _ rfl
    have hl := hB.lt
    have HPP := Lib.hid hP
    have HBB := Lib.hid hb
    clear hB hP hb HMAKE
    go_wp2
    refine bodyPost_ret (v := .agg #[.int .i64 r, .slice p2 kn cp2, .slice q2 km cq2]) (by simp [results, Try.f13, go_sem, r0, r1, r2]) rfl ?_
    exact ⟨p2, q2, cp2, cq2, rfl, HPP.out, HBB.out⟩
end Go.Proofs.Ytajccigefoddiaa
