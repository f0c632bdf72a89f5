/- LedgerCrossed. -/
import Derived.Test.YtapbghkoijmjeaaCrossRel
import Derived.Test.YtapbghkoijmjeaaLawOnce
namespace Go.Proofs.Ytapbghkoijmjeaa
set_option linter.unusedVariables false
set_option linter.unusedSimpArgs false
open Go.RowKit Go.Shelf
/-- A list of numbers in memory that the ledger does not reach. -/
def NumAt (w wr : World) (own : Own) (v : Value) (l : List Int) : Prop := wr.ownsRow w.heap.size 3 1 v l.length (l.map (Value.int .i64)) ∧ ∀ r, v.ownBlock = some r → own r = none
theorem NumAt.below {w wr w2 : World} {own : Own} {v : Value} {l : List Int} (h : NumAt w wr own v l) (hb : Below wr.heap.size wr w2) : NumAt w w2 own v l :=
  ⟨owns_fr h.1 (Fr.of_below (S := none_) hb) (fun _ _ h => h), h.2⟩
structure CrR (w wr : World) (t : Ld.T) (own : Own) : Prop where
  ow : Ow w own w.heap.size t wr
  inv : Ld.Inv t
theorem CrR.below {w wr w2 : World} {t : Ld.T} {own : Own} (h : CrR w wr t own) (hb : Below wr.heap.size wr w2) : CrR w w2 t own := ⟨h.ow.below hb, h.inv⟩
theorem CrR.step {w wr w2 : World} {t : Ld.T} {own : Own} {v v3 : Value} {l : List Ld.En} {l3 : List Int} (h : CrR w wr t own) (hl : LogAt w wr own v l) (hn : NumAt w wr own v3 l3) (o : Op) (hG : Gone wr own w.heap.size (Ld.step t o) w2) : ∃ own', CrR w w2 (Ld.step t o) own' ∧ LogAt w w2 own' v l ∧ NumAt w w2 own' v3 l3 := by
  obtain ⟨own', hO, hk, hF⟩ := h.ow.gone hG (h.inv.step o).ok
  exact ⟨own', ⟨hO, h.inv.step o⟩, ⟨owns_fr hl.1 hF (fun r e hx => hx (hl.2 r e)), fun r e => by rw [hk r (hl.1.lt r e).2]; exact hl.2 r e⟩, owns_fr hn.1 hF (fun r e hx => hx (hn.2 r e)), fun r e => by rw [hk r (hn.1.lt r e).2]; exact hn.2 r e⟩
theorem CrR.fr {w wr w2 : World} {t : Ld.T} {own : Own} {S : Nat → Prop} (h : CrR w wr t own) (hF : Fr S wr w2) (hso : ∀ k, S k → own k = none) (hsw : ∀ k, S k → w.heap.size ≤ k) : CrR w w2 t own := by
  obtain ⟨L, hL⟩ := h.ow.rep
  exact ⟨⟨⟨L, hL.fr hF hso⟩, h.ow.ok, h.ow.ge, h.ow.bel.trans (hF.below hsw h.ow.bel.size)⟩, h.inv⟩
theorem asc_ints {l : List Nat} (h : l.Pairwise (· < ·)) : (ints l).Pairwise (· < ·) := by
  unfold ints
  rw [List.pairwise_map]
  exact h.imp fun h => by omega
theorem log_openC {w wr w2 : World} {t : Ld.T} {own : Own} {v : Value} (h : CrR w wr t own) (hT : LogR wr w2 v t.es) : CrR w w2 t own ∧ LogAt w w2 own v t.es := by
  obtain ⟨L, hL⟩ := h.ow.rep
  refine ⟨h.below hT.2, ⟨hT.1.1, hT.1.2.imp id fun ⟨g, c, cur, a, b, d⟩ => ⟨g, c, cur, a, Nat.le_trans h.ow.bel.size b, d⟩⟩, fun r e => hL.not_own (hT.1.lt r e).1⟩
/-- What holds while the two logs are compared. -/
structure Mid (w wr : World) (t t2 : Ld.T) (own : Own) (vw vn vc : Value) (C : List Int) : Prop where
  cr : CrR w wr t2 own
  was : LogAt w wr own vw t.es
  now : LogAt w wr own vn t2.es
  num : NumAt w wr own vc C
  dw : ∀ r, vc.ownBlock = some r → vw.ownBlock ≠ some r ∧ vn.ownBlock ≠ some r
theorem Mid.below {w wr w2 : World} {t t2 : Ld.T} {own : Own} {vw vn vc : Value} {C : List Int} (h : Mid w wr t t2 own vw vn vc C) (hb : Below wr.heap.size wr w2) : Mid w w2 t t2 own vw vn vc C :=
  ⟨h.cr.below hb, h.was.below hb, h.now.below hb, h.num.below hb, h.dw⟩
theorem Mid.app {w wr B w2 : World} {t t2 : Ld.T} {own : Own} {vw vn : Value} {pv : Option Addr} {j cv : Nat} {C : List Int} {z : Int} {v5 : Value} (h : Mid w wr t t2 own vw vn (.slice pv j cv) C) (hj : j = C.length) (hAB : Below wr.heap.size wr B) (hG : B.grownBy w2 (Value.slice pv j cv).ownBlock)
    (hown : w2.ownsRow w.heap.size 3 1 v5 (j + 1) (C.map (Value.int .i64) ++ [.int .i64 z])) (hat : v5.ownBlock = (Value.slice pv j cv).ownBlock ∨ v5.ownBlock = some B.heap.size) : Mid w w2 t t2 own vw vn v5 (C ++ [z]) ∧ ∃ g c, v5 = .slice (some ⟨g, 0, none⟩) (C ++ [z]).length c := by
  have h2 := h.below hAB
  obtain ⟨L, hL⟩ := h.cr.ow.rep
  have hsz := hAB.size
  have hrow := h.num.1
  obtain ⟨S, hS⟩ : ∃ S : Nat → Prop, S = fun x => (Value.slice pv j cv).ownBlock = some x := ⟨_, rfl⟩
  have hF : Fr S B w2 := by
    refine (Fr.refl _ _).grown hG (fun x e => .inl (by rw [hS]; exact e)) (fun x e => ?_)
    rcases hrow.2 with ⟨h1, _⟩ | ⟨g, c, cur, h1, _, h3, _⟩
    · rw [h1] at e; simp [Value.ownBlock] at e
    · rw [h1] at e
      simp only [Value.ownBlock, Option.some.injEq] at e
      subst e
      exact ⟨cur, 3, (0, 0), (hAB.block g (Array.getElem?_eq_some_iff.1 h3).1).trans h3⟩
  have hso : ∀ k, S k → own k = none := fun k hk => h.num.2 k (by rw [hS] at hk; exact hk)
  have hsw : ∀ k, S k → w.heap.size ≤ k := fun k hk => (hrow.lt k (by rw [hS] at hk; exact hk)).1
  have hlen : (C ++ [z]).length = j + 1 := by rw [hj]; simp
  refine ⟨⟨⟨⟨?_, h2.cr.ow.ok, h2.cr.ow.ge, h2.cr.ow.bel.trans (hF.below hsw h2.cr.ow.bel.size)⟩, h2.cr.inv⟩, ⟨owns_fr h2.was.1 hF (fun r e hs => ?_), h2.was.2⟩, ⟨owns_fr h2.now.1 hF (fun r e hs => ?_), h2.now.2⟩, ⟨?_, fun r e => ?_⟩, fun r e => ?_⟩, ?_⟩
  · obtain ⟨L2, hL2⟩ := h2.cr.ow.rep
    exact ⟨L2, hL2.fr hF hso⟩
  · rw [hS] at hs; exact (h.dw r hs).1 e
  · rw [hS] at hs; exact (h.dw r hs).2 e
  · rw [hlen, List.map_append]; exact hown
  · rcases hat with h1 | h1
    · exact h.num.2 r (by rw [← h1]; exact e)
    · rw [h1] at e
      cases e
      exact hL.not_own hsz
  · rcases hat with h1 | h1
    · exact h.dw r (by rw [← h1]; exact e)
    · rw [h1] at e
      cases e
      exact ⟨fun e2 => by have := (h.was.1.lt _ e2).2; omega, fun e2 => by have := (h.now.1.lt _ e2).2; omega⟩
  · rw [hlen]
    rcases hown.2 with ⟨e, h0⟩ | ⟨g', cap', cur, e, h1, h2, h3, h4, h5⟩
    · omega
    · exact ⟨g', cap', e⟩
theorem later_no {x : Ld.En} {l : List Ld.En} (h : ∀ (b : Nat) y, b < l.length → l[b]? = some y → ¬ (y.task = x.task ∧ y.to_ = 0)) : later x l = false := by
  unfold later
  rw [List.any_eq_false]
  intro y hy
  obtain ⟨b, hb, rfl⟩ := List.mem_iff_getElem.1 hy
  have := h b _ hb (List.getElem?_eq_getElem hb)
  simpa using this
theorem later_yes {x y : Ld.En} {l : List Ld.En} {b : Nat} (h : l[b]? = some y) (h1 : y.task = x.task) (h2 : y.to_ = 0) : later x l = true := by
  unfold later
  rw [List.any_eq_true]
  exact ⟨y, List.mem_of_getElem? h, by simp [h1, h2]⟩
theorem ints_newC {es es2 : List Ld.En} {i : Nat} : ints (newC es es2 (i + 1)) = ints (newC es es2 i) ++ if hitN es es2 i then [(i : Int)] else [] := by
  rw [newC_succ]
  unfold ints
  rw [List.map_append]
  congr 1
  split <;> rfl
theorem newC_len (es es2 : List Ld.En) (i : Nat) : (newC es es2 i).length ≤ i := by
  have := List.length_filter_le (hitN es es2) (List.range i)
  rw [List.length_range] at this
  exact this
set_option maxRecDepth 100000 in
set_option maxHeartbeats 8000000 in
theorem law_crossed (w : World) (p : Option Addr) (cap : Nat) (Lo : List Op) (hL : OpsIn w p cap Lo) : Calls Try.prog 8 #[.slice p Lo.length cap] w (still w (.bool true)) := by
  unfold still
  have N := Lib.hid (new_any w)
  unfold newPost at N
  have AW := Lib.hid awake_any
  unfold still at AW
  have HL := Lib.hid hL
  obtain ⟨n, hn⟩ : ∃ n, n = min Lo.length 100 := ⟨_, rfl⟩
  have HN := Lib.hid hn
  have hn1 : (min (Lo.length : Int) 100) = (n : Int) := by omega
  have hcl := hL.le
  have hcm := hL.cap
  unfold maxLen at hcm
  obtain ⟨ln, hln⟩ : ∃ ln, ln = Lo.length := ⟨_, rfl⟩
  have HLN := Lib.hid hln
  rw [← hln] at hn1 hcl ⊢
  have hnl : n ≤ ln := by omega
  have hn100 : n ≤ 100 := by omega
  clear hL hn hln
  go_enter Try.func8, Try.ntmps8
  go_wp2_with fail
  refine N.out.mono ?_
  rintro e w1 ⟨rfl, hO1⟩
  have HS : Hid (CrR w w1 Ld.new (own0 w.heap.size)) := Lib.hid ⟨hO1, inv0⟩
  clear hO1 N
  go_wp2_with fail
  go_loopw [4, 19] (fun v i wr => ∃ (k : Nat) (t : Ld.T) (own : Own) (p : Option Addr) (c : Nat) (C : List Int), k ≤ n ∧ i = .int .i64 (k : Int) ∧ v = .slice p C.length c ∧ Hid (CrR w wr t own) ∧ Hid (NumAt w wr own (.slice p C.length c) C) ∧ Hid (C.Perm (ints (Ld.which (fun e => e.cr) t.es)))) (fun _ i _ => n - (intOf i).toNat)
  case atStart => exact ⟨0, _, _, none, 0, [], Nat.zero_le _, rfl, rfl, HS, Lib.hid ⟨World.ownsRow_nil _ _ _ _, by simp [Value.ownBlock]⟩, Lib.hid (by simp [Ld.which, Ld.new, ints])⟩
  case round =>
    obtain ⟨k, t, own, pc, cc, C, hk, rfl, rfl, HR, HN0, HP⟩ := hrel
    clear HS
    have hCl : C.length ≤ 400 := by
      have h1 := HP.out.length_eq
      have h2 := which_le (fun e => e.cr) t.es
      have h3 := HR.out.inv.n400
      simp only [ints, List.length_map] at h1
      omega
    by_cases hlt : k < n
    · obtain ⟨o, ho⟩ : ∃ o, Lo[k]? = some o := ⟨_, List.getElem?_eq_getElem (by have := HLN.out; omega)⟩
      obtain ⟨ab, ao, rfl, hab, c0, c1, c2⟩ := HL.out.cells ho HR.out.ow.bel
      have habr : ab < wr.heap.size := Nat.lt_of_lt_of_le hab HR.out.ow.bel.size
      have j1 : (k : Int) < (n : Int) := by omega
      have LG : Hid (∀ W, Below wr.heap.size wr W → Calls Try.prog 19 #[ptr w.heap.size] W (logPost W t.es)) := Lib.hid fun W hW => by
        obtain ⟨L, hL⟩ := (HR.out.below hW).ow.rep
        exact log_any hL (by have := HR.out.inv.n400; omega)
      unfold logPost at LG
      have BO := Lib.hid (Blk.new wr #[.int .i64 o.kd, .int .i64 o.task, .int .i64 o.what] 30)
      clear ho hab
      go_wp2_with fail
      refine (LG.out _ (one _ _)).mono ?_
      rintro e w2 ⟨p2, c2', rfl, h21, h22, hT2⟩
      obtain ⟨hR2, hT2'⟩ := log_openC (HR.out.below (one wr _)) hT2
      have HR2 := Lib.hid hR2
      have HT2 := Lib.hid hT2'
      have HN2 := Lib.hid ((HN0.out.below (one wr _)).below hT2.2)
      have HD2 : Hid (∀ r, (Value.slice pc C.length cc).ownBlock = some r → (Value.slice p2 t.es.length c2').ownBlock ≠ some r) := Lib.hid fun r e e2 => by
        have h1 := (HN0.out.1.lt r e).2
        have h2 := (hT2.1.lt r e2).1
        simp at h2
        omega
      have hBO := BO.out.below hT2.2 (by simp)
      have d0 := hBO.cell 0 _ rfl
      have d1 := hBO.cell 1 _ rfl
      have d2 := hBO.cell 2 _ rfl
      have dl := hBO.lt
      have HBO := Lib.hid hBO
      have A : Hid (Calls Try.prog 24 #[ptr w.heap.size, opV o] w2 (runPost w2 own w.heap.size (Ld.step t o))) := Lib.hid (by
        obtain ⟨L, hL⟩ := HR2.out.ow.rep
        exact run_any hL HR2.out.inv.ok o)
      unfold runPost opV at A
      have NO : Hid (own wr.heap.size = none) := Lib.hid (HR.out.ow.rep.choose_spec.not_own (Nat.le_refl _))
      clear hT2 hR2 hT2' LG HR HN0 BO hBO c0 c1 c2
      go_wp2_with fail
      refine A.out.mono ?_
      rintro e w3 ⟨rfl, hG⟩
      obtain ⟨own3, hR3, hT3, hN3⟩ := HR2.out.step HT2.out HN2.out o hG
      obtain ⟨-, -, -, hF3⟩ := HR2.out.ow.gone hG (HR2.out.inv.step o).ok
      have hBO3 := HBO.out.fr hF3 (fun hx => hx NO.out)
      have e0 := hBO3.cell 0 _ rfl
      have e1 := hBO3.lt
      have HR3 := Lib.hid hR3
      have HT3 := Lib.hid hT3
      have HN3 := Lib.hid hN3
      clear hG hR3 hT3 hN3 hF3 hBO3 A d0 d1 d2 dl HBO NO HT2 HN2
      by_cases h1 : o.kd = 1
      · have hst : Ld.step t o = (Ld.release t o.task o.what).1 := by unfold Ld.step; rw [if_neg (by omega), if_pos h1]
        obtain ⟨hcr, hcd, hlen⟩ := release_new HR2.out.inv o.task o.what
        have hAdv := (Adv.step HR2.out.inv o).1.at_
        have HA := Lib.hid hAdv
        have hPN := perm_new hcr hcd hlen
        rw [← hst] at hlen hPN
        have HPN := Lib.hid hPN
        clear hcr hcd hst hPN hAdv HR2
        generalize Ld.step t o = t2 at *
        have hn4 : t2.es.length ≤ 400 := HR3.out.inv.n400
        obtain ⟨L3, hL3⟩ := HR3.out.ow.rep
        have LG := Lib.hid (log_any hL3 (by omega))
        unfold logPost at LG
        rw [hlen] at LG
        have HLE := Lib.hid hlen
        clear hL3 hlen
        go_wp2_with fail
        refine LG.out.mono ?_
        rintro e w4 ⟨p4, c4, rfl, h41, h42, hT4⟩
        have hT4' : LogR w3 w4 (.slice p4 t2.es.length c4) t2.es := by rw [HLE.out]; exact hT4
        obtain ⟨hR4, hN4⟩ := log_openC HR3.out hT4'
        have HM : Hid (Mid w w4 t t2 own3 (.slice p2 t.es.length c2') (.slice p4 t2.es.length c4) (.slice pc (C ++ ints (newC t.es t2.es 0)).length cc) (C ++ ints (newC t.es t2.es 0))) := Lib.hid (by
          have e3 : C ++ ints (newC t.es t2.es 0) = C := by simp [newC, ints]
          rw [e3]
          exact ⟨hR4, HT3.out.below hT4.2, hN4, HN3.out.below hT4.2, fun r e => ⟨HD2.out r e, fun e2 => by
            have h1 := (HN3.out.1.lt r e).2
            have h2 := (hT4'.1.lt r e2).1
            omega⟩⟩)
        have HZ : Hid ((C ++ ints (newC t.es t2.es 0)).length = C.length) := Lib.hid (by simp [newC, ints])
        clear hT4 hT4' hR4 hN4 LG HR3 HT3 HN3 HD2
        obtain ⟨m, hm⟩ : ∃ m, m = t.es.length := ⟨_, rfl⟩
        rw [← hm]
        have HMM := Lib.hid hm
        have hm4 : m ≤ 400 := by have := HLE.out; omega
        have hmc : m ≤ c2' := by omega
        clear hm
        go_wp2_with fail
        go_loopw [4, 34] (fun v i wr => ∃ (j : Nat) (pv : Option Addr) (cv : Nat), j ≤ m ∧ i = .int .i64 (j : Int) ∧ v = .slice pv (C ++ ints (newC t.es t2.es j)).length cv ∧ Hid (Mid w wr t t2 own3 (.slice p2 t.es.length c2') (.slice p4 t2.es.length c4) (.slice pv (C ++ ints (newC t.es t2.es j)).length cv) (C ++ ints (newC t.es t2.es j)))) (fun _ i _ => m - (intOf i).toNat)
        case atStart => exact ⟨0, pc, cc, Nat.zero_le _, rfl, by rw [HZ.out], HM⟩
        case round =>
          obtain ⟨i, pv, cv, hi, rfl, rfl, HMi⟩ := hrel
          clear HM
          by_cases hil : i < m
          · obtain ⟨y, hy⟩ : ∃ y, t.es[i]? = some y := ⟨_, List.getElem?_eq_getElem (by have := HMM.out; omega)⟩
            obtain ⟨x, hx, x1, x2, x3, x4⟩ := HA.out i y hy
            have HH : Hid (hitN t.es t2.es i = (!same4 y x && later x (t.es.drop (i + 1)))) := Lib.hid (by unfold hitN; rw [hy, hx])
            obtain ⟨g, rfl, hg, y0, y1, y2, y3⟩ := HMi.out.was.cells (Below.refl _ _) hy
            obtain ⟨g4, rfl, hg4, z0, z1, z2, z3⟩ := HMi.out.now.cells (Below.refl _ _) hx
            obtain ⟨xw, xt, xf, xo, xc, xl⟩ := x
            obtain ⟨yw, yt, yf, yo, yc, yl⟩ := y
            simp only at x1 x2 x3 x4 y0 y1 y2 y3 z0 z1 z2 z3
            subst x1 x2 x3
            have j5 : (i : Int) < (m : Int) := by omega
            have j6 : ¬ ((i : Int) ≥ (m : Int)) := by omega
            have j7 : decide ((m : Int) ≤ (i : Int)) = false := by simp; omega
            clear hy hx
            obtain ⟨T, hTe⟩ : ∃ T, T = C ++ ints (newC t.es t2.es i) := ⟨_, rfl⟩
            have hTl : T.length ≤ 800 := by
              have := newC_len t.es t2.es i
              rw [hTe]; simp [ints]; omega
            have HTE := Lib.hid hTe
            rw [← hTe] at HMi ⊢
            clear hTe
            by_cases hxo : yo = xo
            · subst hxo
              have HNX : Hid (C ++ ints (newC t.es t2.es (i + 1)) = T) := Lib.hid (by
                rw [ints_newC, HH.out, HTE.out]
                simp [same4])
              clear x4
              go_wp2_with fail
              go_quiet (fail)
              go_wp2_with fail
              exact ⟨⟨i + 1, pv, cv, by omega, by go_num, by rw [HNX.out], Lib.hid (by rw [HNX.out]; exact HMi.out.below (below_drewN (one _ _) _))⟩, by simp [intOf]; omega⟩
            · have hx5 : (yo == xo) = false := by simpa using hxo
              have HS4 : Hid (hitN t.es t2.es i = later ⟨xw, xt, xf, xo, xc, xl⟩ (t.es.drop (i + 1))) := Lib.hid (by
                rw [HH.out]
                simp [same4, hxo])
              clear x4
              have j8 : i + 1 ≤ m := by omega
              have j9 : IntKind.i64.wrap ((i : Int) + 1) = (i : Int) + 1 := IntWalk.i64_in _ (by omega)
              go_wp2_with fail
              go_quiet (fail)
              go_wp2_with fail
              case inl hcc =>
                have hr0 : m - (i + 1) = 0 := by omega
                have HNX : Hid (C ++ ints (newC t.es t2.es (i + 1)) = T) := Lib.hid (by
                  have h1 : t.es.drop (i + 1) = [] := List.drop_of_length_le (by have := HMM.out; omega)
                  rw [ints_newC, HS4.out, HTE.out, h1]
                  simp [later])
                have HM1 := Lib.hid (HMi.out.below (below_drewN (one wr (.cells #[.int .i64 xw, .int .i64 xt, .int .i64 xf, .int .i64 xo] 46)) nq))
                rw [hr0, ← h]
                clear hcc h hr0 HMi
                generalize (wr.alloc (.cells #[.int .i64 xw, .int .i64 xt, .int .i64 xf, .int .i64 xo] 46)).drewN nq = W1 at *
                go_loopw [4, 56] (fun u v wr => u = .slice pv T.length cv ∧ v = .int .i64 0 ∧ wr = W1) (fun _ _ _ => 0)
                case atStart => exact ⟨rfl, rfl, rfl⟩
                case round =>
                  obtain ⟨rfl, rfl, rfl⟩ := hrel
                  go_wp2_with fail
                  exact ⟨⟨i + 1, pv, cv, by omega, by go_num, by rw [HNX.out], Lib.hid (by rw [HNX.out]; exact HM1.out)⟩, by simp [intOf]; omega⟩
              case inr hcc =>
                obtain ⟨r, hr⟩ : ∃ r, r = m - (i + 1) := ⟨_, rfl⟩
                rw [← hr]
                have HM1 := Lib.hid (HMi.out.below (below_drewN (one wr (.cells #[.int .i64 xw, .int .i64 xt, .int .i64 xf, .int .i64 xo] 46)) nq))
                have HX1 := Lib.hid ((Blk.new wr #[.int .i64 xw, .int .i64 xt, .int .i64 xf, .int .i64 xo] 46).below (m := (wr.alloc (.cells #[.int .i64 xw, .int .i64 xt, .int .i64 xf, .int .i64 xo] 46)).heap.size) (below_drewN (Below.refl _ _) nq) (by simp))
                have hrl : (t.es.drop (i + 1)).length = r := by rw [List.length_drop]; have := HMM.out; omega
                have HRL := Lib.hid hrl
                obtain ⟨bx, hbx⟩ : ∃ bx, bx = wr.heap.size := ⟨_, rfl⟩
                rw [← hbx] at HX1 ⊢
                have hrc : r ≤ c2' - (i + 1) := by omega
                clear hcc HMi y0 y1 y2 y3 z0 z1 z2 z3 hg hg4 hbx hrl
                generalize (wr.alloc (.cells #[.int .i64 xw, .int .i64 xt, .int .i64 xf, .int .i64 xo] 46)).drewN nq = W1 at *
                go_loopw [4, 56] (fun u v wr => ∃ j : Nat, j ≤ r ∧ u = .slice pv T.length cv ∧ v = .int .i64 (j : Int) ∧ Hid (Below W1.heap.size W1 wr) ∧ Hid (∀ (b : Nat) y, b < j → (t.es.drop (i + 1))[b]? = some y → ¬ (y.task = xt ∧ y.to_ = 0))) (fun _ v _ => r - (intOf v).toNat)
                case atStart => exact ⟨0, Nat.zero_le _, rfl, rfl, Lib.hid (Below.refl _ _), Lib.hid (fun b y hb => by omega)⟩
                case round =>
                  obtain ⟨j, hj, rfl, rfl, HBE, HNO⟩ := hrel
                  by_cases hjr : j < r
                  · obtain ⟨y, hy⟩ : ∃ y, (t.es.drop (i + 1))[j]? = some y := ⟨_, List.getElem?_eq_getElem (by have := HRL.out; omega)⟩
                    have hy' : t.es[i + 1 + j]? = some y := by rw [← List.getElem?_drop]; exact hy
                    obtain ⟨g', hgg, hg', y0, y1, y2, y3⟩ := HM1.out.was.cells HBE.out hy'
                    cases hgg
                    rw [show (i + 1 + j) * 4 = (i + 1) * 4 + j * 4 by omega] at y0 y1 y2 y3
                    have hX := HX1.out.below HBE.out HX1.out.lt
                    have k1 := hX.cell 1 _ rfl
                    have kl := hX.lt
                    have hz := HBE.out.size
                    have q1 : g < wr.heap.size := Nat.lt_of_lt_of_le hg' hz
                    have HY := Lib.hid hy
                    obtain ⟨vw, vt, vf, vo, vc, vl⟩ := y
                    simp only at y0 y1 y2 y3
                    have j8 : (j : Int) < (r : Int) := by omega
                    clear hy hy' hX hg'
                    by_cases ht : vt = xt
                    · subst ht
                      by_cases hvo : vo = 0
                      · subst hvo
                        have HNX : Hid (C ++ ints (newC t.es t2.es (i + 1)) = T ++ [(i : Int)]) := Lib.hid (by
                          rw [ints_newC, HS4.out, HTE.out, later_yes (x := ⟨xw, vt, xf, xo, xc, xl⟩) HY.out rfl rfl]
                          simp)
                        have HME := Lib.hid (HM1.out.below HBE.out)
                        obtain ⟨i0, hi0, hz0, hz1, hz2⟩ := info_parts info3
                        have HI := Lib.hid hi0; have HZ0 := Lib.hid hz0; have HZ1 := Lib.hid hz1; have HZ2 := Lib.hid hz2
                        have hws := HME.out.cr.ow.bel.size
                        have hml : T.length + 1 ≤ maxLen := by unfold maxLen; omega
                        clear hi0 hz0 hz1 hz2
                        go_wp2_with (at_builtin; refine wpList_append_own_at _ (by rfl) (.tmp 70) (.tmp 72) 36 (by rfl) w.heap.size 3 i0 (.int .i64 0) 1 8 Try.underlying36 HI.out HZ0.out HZ1.out HZ2.out (by rfl) (by decide) (.slice pv T.length cv) T.length _ (by rfl) ((HME.out.num.1.alloc _).alloc _) ⟨wr.heap.size + 1, 0, none⟩ 1 1 [.int .i64 (i : Int)] (by rfl) (by rfl) (by have := cell_one_new (wr.alloc (.cells #[.int .i64 vw, .int .i64 vt, .int .i64 vf, .int .i64 0] 46)) (.int .i64 (i : Int)) 3; simpa using this) (by simp [Value.oneCell']) hml (by omega) (by simp; omega) ?_)
                        intro v5 w5 hown5 hG5 _ hat5
                        have hB1 : Below wr.heap.size wr ((wr.alloc (.cells #[.int .i64 vw, .int .i64 vt, .int .i64 vf, .int .i64 0] 46)).alloc (.cells #[.int .i64 (i : Int)] 3)) := ((Below.refl _ _).alloc (Nat.le_refl _) _).alloc (by simp) _
                        obtain ⟨hM5, g5, c5, rfl⟩ := HME.out.app rfl hB1 hG5 hown5 (by simpa using hat5)
                        have HM5 := Lib.hid hM5
                        clear hown5 hG5 hat5 hB1 hM5
                        go_wp2_with fail
                        exact ⟨⟨i + 1, some ⟨g5, 0, none⟩, c5, by omega, by go_num, by rw [HNX.out], Lib.hid (by rw [HNX.out]; exact HM5.out)⟩, by simp [intOf]; omega⟩
                      · have hv5 : (vo == 0) = false := by simpa using hvo
                        go_wp2_with fail
                        exact ⟨⟨j + 1, by omega, rfl, by go_num, Lib.hid (HBE.out.alloc hz _), Lib.hid (fun b y hb hbe => by
                          rcases Nat.lt_or_ge b j with h1 | h1
                          · exact HNO.out b y h1 hbe
                          · obtain rfl : b = j := by omega
                            rw [HY.out] at hbe
                            cases hbe
                            exact fun h2 => hvo h2.2)⟩, by simp [intOf]; omega⟩
                    · have hv5 : (vt == xt) = false := by simpa using ht
                      go_wp2_with fail
                      exact ⟨⟨j + 1, by omega, rfl, by go_num, Lib.hid (HBE.out.alloc hz _), Lib.hid (fun b y hb hbe => by
                        rcases Nat.lt_or_ge b j with h1 | h1
                        · exact HNO.out b y h1 hbe
                        · obtain rfl : b = j := by omega
                          rw [HY.out] at hbe
                          cases hbe
                          exact fun h2 => ht h2.1)⟩, by simp [intOf]; omega⟩
                  · obtain rfl : j = r := by omega
                    have HNX : Hid (C ++ ints (newC t.es t2.es (i + 1)) = T) := Lib.hid (by
                      rw [ints_newC, HS4.out, HTE.out, later_no (fun b y hb hbe => HNO.out b y (by have := HRL.out; omega) hbe)]
                      simp)
                    go_wp2_with fail
                    exact ⟨⟨i + 1, pv, cv, by omega, by go_num, by rw [HNX.out], Lib.hid (by rw [HNX.out]; exact HM1.out.below HBE.out)⟩, by simp [intOf]; omega⟩
          · obtain rfl : i = m := by omega
            have HPF : Hid ((C ++ ints (newC t.es t2.es i)).Perm (ints (Ld.which (fun e => e.cr) t2.es))) := Lib.hid (by
              have h1 := HPN.out
              rw [HLE.out, ← HMM.out] at h1
              have h2 : (ints (Ld.which (fun e => e.cr) t.es ++ newC t.es t2.es i)).Perm (ints (Ld.which (fun e => e.cr) t2.es)) := List.Perm.map _ h1
              have h3 : ints (Ld.which (fun e => e.cr) t.es ++ newC t.es t2.es i) = ints (Ld.which (fun e => e.cr) t.es) ++ ints (newC t.es t2.es i) := by simp [ints]
              rw [h3] at h2
              exact (List.Perm.append_right _ HP.out).trans h2)
            go_wp2_with fail
            exact ⟨⟨k + 1, t2, own3, pv, cv, _, by omega, by go_num, rfl, Lib.hid HMi.out.cr, Lib.hid HMi.out.num, HPF⟩, by simp [intOf]; omega⟩
      · have hk2 : (o.kd == 1) = false := by simpa using h1
        have hk3 : (o.kd != 1) = true := by simpa using h1
        have HPF : Hid (C.Perm (ints (Ld.which (fun e => e.cr) (Ld.step t o).es))) := Lib.hid (HP.out.trans (List.Perm.map _ (perm_cr (cr_keep t o h1))))
        go_wp2_with fail
        exact ⟨⟨k + 1, _, own3, pc, cc, C, by omega, by go_num, rfl, HR3, HN3, HPF⟩, by simp [intOf]; omega⟩
    · obtain rfl : k = n := by omega
      have SR := Lib.hid (sort_row wr C (by omega) HN0.out.1)
      obtain ⟨D, hD⟩ : ∃ D, D = ints (Ld.which (fun e => e.cr) t.es) := ⟨_, rfl⟩
      have hSC : sorted C = D := by rw [hD]; exact sorted_perm HP.out (asc_ints (asc_which _ _))
      have hCD : C.length = D.length := by rw [hD]; exact HP.out.length_eq
      rw [hSC] at SR
      have CA : Hid (∀ W, CrR w W t own → Calls Try.prog 20 #[ptr w.heap.size] W (numsPost W D)) := Lib.hid fun W hW => by
        obtain ⟨L, hL⟩ := hW.ow.rep
        have := crossed_any hL (by have := hW.inv.n400; omega)
        rw [← hD] at this
        exact this
      unfold numsPost at CA
      have HCD := Lib.hid hCD
      have HSW : Hid (∀ r, (Value.slice pc C.length cc).ownBlock = some r → w.heap.size ≤ r) := Lib.hid fun r e => (HN0.out.1.lt r e).1
      clear hD hSC HP hCD
      go_wp2_with fail
      refine SR.out.mono ?_
      rintro e w2 ⟨rfl, hrow, hF⟩
      have HR2 : Hid (CrR w w2 t own) := Lib.hid (HR.out.fr hF (fun r e => HN0.out.2 r e) (fun r e => HSW.out r e))
      rw [HCD.out] at hrow
      have HROW := Lib.hid hrow
      have CA2 := Lib.hid (CA.out w2 HR2.out)
      rw [HCD.out] at hCl ⊢
      clear hrow hF SR CA
      go_wp2_with fail
      refine CA2.out.mono ?_
      rintro e w3 ⟨p3, c3, rfl, h31, h32, hT3⟩
      have HR3 := Lib.hid (HR2.out.below hT3.2)
      have EQ := Lib.hid (equalI_any w3 p3 pc c3 cc D D (by omega) (by omega) (nums_at hT3.1) ((nums_at HROW.out).below hT3.2))
      unfold still at EQ
      rw [beq_self_eq_true] at EQ
      clear hT3 CA2
      go_wp2_with fail
      refine EQ.out.mono ?_
      rintro e w4 ⟨rfl, hb4⟩
      have HB4 : Hid (Below w.heap.size w w4) := Lib.hid (HR3.out.ow.bel.trans (hb4.mono HR3.out.ow.bel.size))
      clear hb4 EQ
      go_wp2_with fail
      refine (AW.out _).mono ?_
      rintro e w5 ⟨rfl, hb⟩
      have HW5 : Hid (Below w.heap.size w w5) := Lib.hid (HB4.out.trans (hb.mono HB4.out.size))
      clear hb
      go_wp2
      go_ret
      exact ⟨rfl, HW5.out⟩
theorem law_crossed_c (v : Value) (w : World) (h : OpsArg w v) : Calls Try.prog 8 #[v] w fun e w' => e = .returned (.bool true) ∧ Below w.heap.size w w' := by
  obtain ⟨p, cap, L, rfl, hL⟩ := h
  exact law_crossed w p cap L hL
end Go.Proofs.Ytapbghkoijmjeaa
