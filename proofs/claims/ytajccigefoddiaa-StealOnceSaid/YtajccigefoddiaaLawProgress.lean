/- StealProgress. -/
import Derived.Test.YtajccigefoddiaaPgsRel
import Derived.Test.YtajccigefoddiaaFrameP
namespace Go.Proofs.Ytajccigefoddiaa
set_option linter.unusedVariables false
set_option linter.unusedSimpArgs false
open Go.RowKit Go.Shelf
open St
/-- A list of pairs lies at an address. -/
def PairsAt (W : World) (p : Option Addr) (lg : List (Nat × Int)) : Prop := 0 < lg.length → ∃ g, p = some ⟨g, 0, none⟩ ∧ g < W.heap.size ∧ ∀ k e, lg[k]? = some e → W.cell? ⟨g, k * 2, none⟩ = some (natV e.1) ∧ W.cell? ⟨g, k * 2 + 1, none⟩ = some (.int .i64 e.2)
theorem flat_at (lg : List (Nat × Int)) (k : Nat) (e : Nat × Int) (h : lg[k]? = some e) : (lg.flatMap enL)[k * 2]? = some (natV e.1) ∧ (lg.flatMap enL)[k * 2 + 1]? = some (.int .i64 e.2) := by
  induction lg generalizing k with
  | nil => simp at h
  | cons f lg ih =>
    cases k with
    | zero => simp at h; subst h; simp [enL]
    | succ k =>
      have := ih k (by simpa using h)
      rw [show (k + 1) * 2 = k * 2 + 2 by omega, show k * 2 + 2 + 1 = k * 2 + 1 + 2 by omega]
      simpa [enL] using this
theorem pairs_at {W : World} {b : Nat} {p : Option Addr} {cap : Nat} {lg : List (Nat × Int)} (h : W.ownsRow b 45 2 (.slice p lg.length cap) lg.length (lg.flatMap enL)) : PairsAt W p lg := fun hp => by
  rcases h.2 with ⟨h1, h0⟩ | ⟨g, cap', cur, h1, _, hg, _⟩
  · omega
  · cases h1
    refine ⟨g, rfl, (Array.getElem?_eq_some_iff.1 hg).1, fun k e he => ?_⟩
    obtain ⟨f1, f2⟩ := flat_at lg k e he
    have c1 := h.cells (g := g) rfl _ _ f1
    have c2 := h.cells (g := g) rfl _ _ f2
    rw [add_off, Nat.zero_add] at c1 c2
    exact ⟨c1, c2⟩
theorem Since.get {i : Nat} {log : List (Nat × Int)} {k : Nat} (h : Since i (log.take k)) : ∃ m e, m < k ∧ log[m]? = some e ∧ 0 < e.2 ∧ ∀ (j : Nat) f, m ≤ j → j < k → log[j]? = some f → f.1 ≠ i := by
  obtain ⟨m, e, h1, h2, h3⟩ := h
  rw [List.getElem?_take] at h1
  split at h1
  · rename_i hm
    exact ⟨m, e, hm, h1, h2, fun j f hj hk hf => h3 j f hj (by rw [List.getElem?_take, if_pos hk]; exact hf)⟩
  · cases h1
set_option maxRecDepth 100000 in
set_option maxHeartbeats 4000000 in
theorem prog_core (w : World) (r : Int) (p q p2 : Option Addr) (n m cp cq n2 c2 : Nat) (A : Nat → Nat → Own → Nat → Nat → World → Prop) (lg : List (Nat × Int)) (hlen : lg.length ≤ 100000)
    (C : Hid (∀ o, Calls Try.prog 12 #[.agg #[.int .i64 r, .slice p n cp, .slice q m cq]] (w.alloc o) fun e w' => (e = .returned (.tuple #[.pointer none, .int .i64 2]) ∧ Below w.heap.size w w') ∨ ∃ rb, e = .returned (.tuple #[ptr rb, .int .i64 0]) ∧ Below w.heap.size w w' ∧ Calls Try.prog 20 #[ptr rb, .slice p2 n2 c2] w' fun e w'' => Below w.heap.size w w'' ∧ ∃ pp cc, e = .returned (.tuple #[.slice pp lg.length cc, .bool true]) ∧ PairsAt w'' pp lg))
    (SI : Hid (∀ (k : Nat) e, lg[k]? = some e → e.1 ≠ 0 → e.2 = -1 → Since e.1 (lg.take k))) :
    Calls Try.prog 7 #[.agg #[.int .i64 r, .slice p n cp, .slice q m cq], .slice p2 n2 c2] w fun e w' => e = .returned (.bool true) ∧ Below w.heap.size w w' := by
  have C1 := Lib.hid (C.out (.cells #[.int .i64 r, .slice p n cp, .slice q m cq] 24))
  have AW := Lib.hid awake_any
  unfold still at AW
  clear C
  go_enter Try.func7, Try.ntmps7
  go_wp2_with fail
  refine C1.out.mono ?_
  rintro e w1 (⟨rfl, hb⟩ | ⟨rb, rfl, hb, hC⟩)
  · have HB := Lib.hid hb
    clear hb C1
    go_wp2_with fail
    refine (AW.out _).mono ?_
    rintro e w2 ⟨rfl, hb⟩
    have HB2 := Lib.hid (HB.out.trans (hb.mono HB.out.size))
    clear hb
    go_wp2
    go_ret
    exact ⟨rfl, HB2.out⟩
  · have C2 := Lib.hid hC
    clear hC hb C1
    go_wp2_with fail
    refine C2.out.mono ?_
    rintro e w2 ⟨hb, pp, cc, rfl, hp⟩
    have HB := Lib.hid hb
    have HPR := Lib.hid hp
    obtain ⟨L, hL⟩ : ∃ L, L = lg.length := ⟨_, rfl⟩
    rw [← hL] at hlen ⊢
    have HL := Lib.hid hL
    clear hb hp C2 hL
    go_wp2_with fail
    go_loopw [35] (fun i wr => ∃ (k : Nat), k ≤ L ∧ i = .int .i64 (k : Int) ∧ Hid (Below w2.heap.size w2 wr)) (fun i _ => L - (intOf i).toNat)
    case atStart => exact ⟨0, by omega, rfl, Lib.hid (Below.refl _ _)⟩
    case round =>
      obtain ⟨k, hk, rfl, HW⟩ := hrel
      by_cases hlt : k < L
      · obtain ⟨e, he⟩ : ∃ e, lg[k]? = some e := ⟨_, List.getElem?_eq_getElem (by have := HL.out; omega)⟩
        have HE := Lib.hid he
        obtain ⟨g, rfl, hg, hcell⟩ := HPR.out (by have := HL.out; omega)
        obtain ⟨d0, d1⟩ := hcell k e he
        have c0 := cell_of HW.out d0
        have c1 := cell_of HW.out d1
        have hgr := Nat.lt_of_lt_of_le hg HW.out.size
        have j1 : (k : Int) < (L : Int) := by omega
        have LD : Hid (wr.rangeAt g (k * 2) [natV e.1, .int .i64 e.2]) := Lib.hid fun j v hv => by
          match j, hv with
          | 0, hv => simp at hv; subst hv; exact c0
          | 1, hv => simp at hv; subst hv; exact c1
        clear he hcell d0 d1
        obtain ⟨i0, y⟩ := e
        have XB : Hid (Blk (wr.alloc (.cells #[natV i0, .int .i64 y] 45)) wr.heap.size [natV i0, .int .i64 y]) := Lib.hid (Blk.new wr #[natV i0, .int .i64 y] 45)
        have XW : Hid (Below wr.heap.size wr (wr.alloc (.cells #[natV i0, .int .i64 y] 45))) := Lib.hid (one _ _)
        have HDONE : Hid (∀ W, Below (wr.alloc (.cells #[natV i0, .int .i64 y] 45)).heap.size (wr.alloc (.cells #[natV i0, .int .i64 y] 45)) W → Below w2.heap.size w2 W) := Lib.hid fun W hW => HW.out.trans ((XW.out.trans (hW.mono XW.out.size)).mono HW.out.size)
        by_cases hn0 : i0 = 0
        · subst hn0
          clear XB
          go_wp2_with fail
          all_goals exact ⟨⟨k + 1, by omega, by go_num, Lib.hid (HDONE.out _ (Below.refl _ _))⟩, by simp [intOf]; omega⟩
        simp only at c0 c1 LD
        by_cases hy : ¬ y = -1
        · clear XB
          have hn1 : ((i0 : Int) == 0) = false := by simp; omega
          have hy1 : (y != -1) = true := by simpa using hy
          go_wp2_with fail
          all_goals exact ⟨⟨k + 1, by omega, by go_num, Lib.hid (HDONE.out _ (Below.refl _ _))⟩, by simp [intOf]; omega⟩
        · have hy := Decidable.not_not.1 hy
          subst hy
          have hn1 : ((i0 : Int) == 0) = false := by simp; omega
          have hkk := (SI.out k _ HE.out hn0 rfl).get
          obtain ⟨kk, f0, hkk1, hkk2, hkk3, hkk4⟩ := hkk
          have KK : Hid (lg[kk]? = some f0 ∧ 0 < f0.2 ∧ ∀ (j : Nat) f, kk ≤ j → j < k → lg[j]? = some f → f.1 ≠ i0) := Lib.hid ⟨hkk2, hkk3, hkk4⟩
          clear hkk2 hkk3 hkk4
          go_wp2_with fail
          clear c0 c1 LD
          go_loopw [11, 12] (fun b i ws => ∃ (m : Nat) (bb : Bool) (z : Int), m ≤ k ∧ b = .bool bb ∧ i = .int .i64 z ∧ z = (m : Int) - 1 ∧ (bb = true ∨ kk < m) ∧ Hid (Below (wr.alloc (.cells #[natV i0, .int .i64 (-1)] 45)).heap.size (wr.alloc (.cells #[natV i0, .int .i64 (-1)] 45)) ws)) (fun _ i _ => ((intOf i) + 1).toNat)
          case atStart => exact ⟨k, false, _, by omega, rfl, rfl, rfl, .inr hkk1, Lib.hid (Below.refl _ _)⟩
          case round =>
            obtain ⟨m, bb, z, hm, rfl, rfl, hz, hbk, HS⟩ := hrel
            cases bb with
            | true =>
              have HD2 := Lib.hid (HDONE.out _ HS.out)
              by_cases hm0 : m = 0
              · subst hm0
                have hz0 : decide ((0 : Int) ≤ z) = false := decide_eq_false (by omega)
                clear XB KK hz hm hbk
                go_wp2_with fail
                go_quiet (fail)
                go_wp2_with fail
                exact ⟨⟨k + 1, by omega, by go_num, Lib.hid (below_drewN HD2.out _)⟩, by simp [intOf]; omega⟩
              · have hz0 : (0 : Int) ≤ z := by omega
                clear XB KK hz hm hbk hm0
                go_wp2_with fail
                go_quiet (fail)
                go_wp2_with fail
                exact ⟨⟨k + 1, by omega, by go_num, Lib.hid (below_drewN HD2.out _)⟩, by simp [intOf]; omega⟩
            | false =>
              have hkm : kk < m := by rcases hbk with h | h; cases h; exact h
              obtain ⟨m1, rfl⟩ : ∃ m1, m = m1 + 1 := ⟨m - 1, by omega⟩
              obtain rfl : z = (m1 : Int) := by omega
              obtain ⟨f, hf⟩ : ∃ f, lg[m1]? = some f := ⟨_, List.getElem?_eq_getElem (by have := HL.out; omega)⟩
              have hne := KK.out.2.2 m1 f (by omega) (by omega) hf
              obtain ⟨g', e', hg', hcell'⟩ := HPR.out (by have := HL.out; omega)
              cases e'
              obtain ⟨d0, d1⟩ := hcell' m1 f hf
              have c0 := cell_of HS.out (cell_of XW.out (cell_of HW.out d0))
              have c1 := cell_of HS.out (cell_of XW.out (cell_of HW.out d1))
              have hB := XB.out.below HS.out XB.out.lt
              have y0 := hB.cell 0 _ rfl
              have hlr := hB.lt
              have hlg := Nat.lt_of_lt_of_le hgr (Nat.le_trans XW.out.size HS.out.size)
              have hne1 : ¬ (f.1 : Int) = (i0 : Int) := by omega
              have hz0 : (0 : Int) ≤ (m1 : Int) := by omega
              have hz1 : (m1 : Int) < (L : Int) := by omega
              have HF := Lib.hid hf
              clear hB hf hcell' d0 d1 hz hbk
              go_wp2_with fail
              go_quiet (fail)
              go_wp2_with fail
              refine ⟨⟨m1, decide (0 < f.2), (m1 : Int) - 1, by omega, rfl, rfl, rfl, ?_, Lib.hid (below_drewN HS.out _)⟩, by simp [intOf]⟩
              by_cases hkm1 : kk = m1
              · subst hkm1
                have h1 := KK.out.1
                rw [HF.out] at h1
                cases h1
                exact .inl (decide_eq_true KK.out.2.1)
              · exact .inr (by omega)
      · obtain rfl : k = L := by omega
        go_wp2_with fail
        refine (AW.out _).mono ?_
        rintro e w3 ⟨rfl, hb⟩
        have HB2 := Lib.hid (HB.out.trans ((HW.out.mono HB.out.size).trans (hb.mono (Nat.le_trans HB.out.size HW.out.size))))
        clear hb
        go_wp2
        go_ret
        exact ⟨rfl, HB2.out⟩
theorem gotOf_mk (room : Int) (lo lt : List Int) (x : Int) : (St.mkT room lo lt).gotOf x = [] := by
  unfold St.T.gotOf
  split
  · rfl
  · split
    · rfl
    · rename_i a ha
      cases h : x.toNat with
      | zero =>
        rw [h] at ha
        obtain rfl : (⟨lo.map opOf, none, []⟩ : Ac) = a := by simpa [St.mkT] using ha
        rfl
      | succ j =>
        rw [h] at ha
        have e' : (lt.map thiefAc)[j]? = some a := by simpa [St.mkT] using ha
        rw [List.getElem?_map] at e'
        cases hj : lt[j]? with
        | none => rw [hj] at e'; cases e'
        | some n =>
          rw [hj] at e'
          obtain rfl : thiefAc n = a := by simpa using e'
          rfl
theorem law_progress_c (v0 v1 : Value) (w : World) (h0 : PlanArg w v0) (h1 : IntsArg w v1) : Calls Try.prog 7 #[v0, v1] w fun e w' => e = .returned (.bool true) ∧ Below w.heap.size w w' := by
  obtain ⟨r, p, q, cp, cq, lo, lt, rfl, hP⟩ := h0
  obtain ⟨p2, c2, l2, rfl, g1, g2, g3⟩ := h1
  by_cases hok : St.okPlan r (lo.take 62) (lt.take 10) = true
  · have hlen : (lgPlays (St.mkT r (lo.take 62) (lt.take 10), []) (l2.take 600 ++ tailL 9)).2.length ≤ 100000 := by
      refine Nat.le_trans (lgPlays_len _ _) ?_
      rw [List.length_append, tailL_len, List.length_take]
      show 0 + _ ≤ _
      omega
    have hov := over_all hok (l2.take 600)
    have hpi := pinv_mk hok (l2.take 600 ++ tailL 9)
    have hpl : ∀ (rb cb : Nat) (own : Own) (ab cap : Nat) (ws : World), Ow w own rb cb ab cap (St.mkT r (lo.take 62) (lt.take 10)) ws → Calls Try.prog 20 #[ptr rb, .slice p2 l2.length c2] ws (playedPost w rb cb ab cap (lgPlays (St.mkT r (lo.take 62) (lt.take 10), []) (l2.take 600 ++ tailL 9))) := fun rb cb own ab cap ws hO => played_any ⟨hO, [], inv_mk hok⟩ (fun a _ => gotOf_mk _ _ _ _) p2 c2 l2 g1 g2 g3
    generalize lgPlays (St.mkT r (lo.take 62) (lt.take 10), []) (l2.take 600 ++ tailL 9) = S at hlen hov hpi hpl
    refine prog_core w r p q p2 lo.length lt.length cp cq l2.length c2 (fun _ _ _ _ _ _ => True) S.2 hlen (Lib.hid fun o => ?_) (Lib.hid hpi.vain)
    refine (made_any (w.alloc o) r p q cp cq lo lt (hP.below (one _ _))).mono fun e w' h => ?_
    have h' := h.from_ (one w o)
    unfold newPost at h'
    rw [if_pos hok] at h'
    obtain ⟨rb, cb, own, ab, cap, rfl, hO⟩ := h'
    refine .inr ⟨rb, rfl, hO.bel, ?_⟩
    refine (hpl rb cb own ab cap w' hO).mono fun e w2 h2 => ?_
    obtain ⟨own2, pp, cc, rfl, hR, hrow, _⟩ := h2
    exact ⟨hR.ow.bel, pp, cc, by rw [hov], pairs_at hrow⟩
  · refine prog_core w r p q p2 lo.length lt.length cp cq l2.length c2 (fun _ _ _ _ _ _ => True) [] (by simp) (Lib.hid fun o => ?_) (Lib.hid fun k e he => by simp at he)
    refine (made_any (w.alloc o) r p q cp cq lo lt (hP.below (one _ _))).mono fun e w' h => ?_
    have h' := h.from_ (one w o)
    unfold newPost at h'
    rw [if_neg hok] at h'
    exact .inl h'
end Go.Proofs.Ytajccigefoddiaa
