/- StealCopies. -/
import Derived.Test.YtajccigefoddiaaCopRel
namespace Go.Proofs.Ytajccigefoddiaa
set_option linter.unusedVariables false
set_option linter.unusedSimpArgs false
open Go.RowKit Go.Shelf
open St
theorem bools_at {W : World} {b : Nat} {p : Option Addr} {n cap : Nat} {l : List Bool} (hn : l.length = n) (h : W.ownsRow b 4 1 (.slice p n cap) n (bools l)) : BoolsAt W p l := fun h0 => by
  rcases h.2 with ⟨h1, h2⟩ | ⟨g, cap', cur, h1, _, hg, _⟩
  · omega
  · cases h1
    refine ⟨g, rfl, (Array.getElem?_eq_some_iff.1 hg).1, fun j b hb => ?_⟩
    have := h.cells (g := g) rfl j (.bool b) (by simp [bools, hb])
    rw [add_off, Nat.zero_add] at this
    exact this
theorem CsX.was {w0 wr : World} {rb1 cb1 ab1 cap1 : Nat} {t1 : St.T} {rb2 cb2 ab2 cap2 : Nat} {t2 : St.T} {S R : List Bool} {v1 v2 : Value} {was : List Int} {p : Option Addr} {n c : Nat} (h : CsX w0 wr rb1 cb1 ab1 cap1 t1 rb2 cb2 ab2 cap2 t2 S R v1 v2 was (.slice p n c)) : NumsAt wr p was ∧ n = was.length := by
  obtain ⟨o1, o2, h⟩ := h
  have hw := h.ww
  obtain ⟨p', c', e, _⟩ := owns_form hw
  cases e
  exact ⟨nums_at hw, rfl⟩
theorem CsX.row1 {w0 wr : World} {rb1 cb1 ab1 cap1 : Nat} {t1 : St.T} {rb2 cb2 ab2 cap2 : Nat} {t2 : St.T} {S R : List Bool} {v1 v2 : Value} {was : List Int} {vw : Value} (h : CsX w0 wr rb1 cb1 ab1 cap1 t1 rb2 cb2 ab2 cap2 t2 S R v1 v2 was vw) : wr.ownsRow w0.heap.size 4 1 v1 S.length (bools S) ∧ Below w0.heap.size w0 wr := by
  obtain ⟨o1, o2, h⟩ := h; exact ⟨h.b1, h.bel⟩
/-- Behind the copy. -/
theorem cs_start {w0 w5 w6 : World} {o1 o2 : Own} {rb1 cb1 ab1 cap1 : Nat} {t1 : St.T} {rb2 cb2 ab2 cap2 : Nat} {t2 : St.T} {l : List Int} {p : Option Addr} {c : Nat} (hP : Pr w0.heap.size w5 o1 o2 rb1 cb1 ab1 cap1 t1 rb2 cb2 ab2 cap2 t2) (hb : Below w0.heap.size w0 w5) (hb6 : Below w5.heap.size w5 w6) (hr : w6.ownsRow w5.heap.size 3 1 (.slice p l.length c) l.length (ints l)) :
    CsX w0 w6 rb1 cb1 ab1 cap1 t1 rb2 cb2 ab2 cap2 t2 [] [] (.slice none 0 0) (.slice none 0 0) l (.slice p l.length c) := by
  obtain ⟨q1, q2, hP2, ho, hn⟩ := hP.grow hb.size (S := none_) (Fr.of_below hb6) (fun k hk => hk.elim)
  have hr' : w6.ownsRow w0.heap.size 3 1 (.slice p l.length c) l.length (ints l) := by
    refine ⟨hr.1, ?_⟩
    rcases hr.2 with h0 | ⟨g, cap, cur, e, hbg, hg, r⟩
    · exact .inl h0
    · exact .inr ⟨g, cap, cur, e, Nat.le_trans hb.size hbg, hg, r⟩
  exact ⟨q1, q2, hP2, hb.trans (hb6.mono hb.size), World.ownsRow_nil _ _ _ _, World.ownsRow_nil _ _ _ _, hr', fun k e => by simp [Value.ownBlock] at e, fun k e => by simp [Value.ownBlock] at e, fun k e => hn k (hr.lt k e).1 (hr.lt k e).2, fun k e => by simp [Value.ownBlock] at e, fun k e => by simp [Value.ownBlock] at e, fun k e => by simp [Value.ownBlock] at e⟩
theorem CsX.restLen {w0 wr : World} {rb1 cb1 ab1 cap1 : Nat} {t1 : St.T} {rb2 cb2 ab2 cap2 : Nat} {t2 : St.T} {S R : List Bool} {v1 v2 : Value} {was : List Int} {vw : Value} (h : CsX w0 wr rb1 cb1 ab1 cap1 t1 rb2 cb2 ab2 cap2 t2 S R v1 v2 was vw) (x : Int) : t1.d.rest.length ≤ 200000 ∧ (t1.gotOf x).length ≤ 200000 := by
  obtain ⟨o1, o2, h⟩ := h
  obtain ⟨vs, hR⟩ := h.pr.h1.rep
  constructor
  · have e1 : t1.d.rest = restUpto t1.d (t1.d.bottom - t1.d.top).toNat := rfl
    rw [e1, restUpto_len]
    have := hR.dq.bot2
    omega
  · unfold St.T.gotOf
    split
    · simp
    · split
      · simp
      · rename_i a ha
        have := hR.gl _ a ha
        omega
set_option maxRecDepth 100000 in
set_option maxHeartbeats 8000000 in
theorem cop_core (w : World) (r : Int) (p q p1 p2 : Option Addr) (n m cp cq n1 c1 n2 c2 k1 k2 : Nat) (l1 l2 : List Int) (h1 : Hid (l1.length = k1)) (h2 : Hid (l2.length = k2)) (e1 : min (n1 : Int) 100 = (k1 : Int)) (e2 : min (n2 : Int) 100 = (k2 : Int)) (d1 : k1 ≤ c1) (d2 : k2 ≤ c2) (hk1 : k1 ≤ 100) (hk2 : k2 ≤ 100)
    (N1 : Hid (NumsAt w p1 l1)) (N2 : Hid (NumsAt w p2 l2))
    (C : Hid (∀ o, ∃ w0, Below w.heap.size w w0 ∧ Calls Try.prog 12 #[.agg #[.int .i64 r, .slice p n cp, .slice q m cq]] (w.alloc o) fun e w' => (e = .returned (.tuple #[.pointer none, .int .i64 2]) ∧ Below w.heap.size w w') ∨ ∃ rb own cb ab cap t, e = .returned (.tuple #[ptr rb, .int .i64 0]) ∧ Rn w0 own rb cb ab cap t w')) :
    Calls Try.prog 8 #[.agg #[.int .i64 r, .slice p n cp, .slice q m cq], .slice p1 n1 c1, .slice p2 n2 c2] w fun e w' => e = .returned (.bool true) ∧ Below w.heap.size w w' := by
  have AW := Lib.hid awake_any
  unfold still at AW
  obtain ⟨i0, hi, hz0, hz1, hz2⟩ := info_parts info4
  have HI := Lib.hid hi; have HZ0 := Lib.hid hz0; have HZ1 := Lib.hid hz1; have HZ2 := Lib.hid hz2
  obtain ⟨w0, hw0, hC⟩ := C.out (.cells #[.int .i64 r, .slice p n cp, .slice q m cq] 24)
  have HW0 := Lib.hid hw0
  have C1 := Lib.hid hC
  have s1 : (0 : Int) ≤ (k1 : Int) := by omega
  have s2 : (k1 : Int) ≤ (c1 : Int) := by omega
  have s3 : (0 : Int) ≤ (k2 : Int) := by omega
  have s4 : (k2 : Int) ≤ (c2 : Int) := by omega
  have s5 : k1 ≤ n1 := by omega
  have s6 : k2 ≤ n2 := by omega
  clear hi hz0 hz1 hz2 C hw0 hC
  go_enter Try.func8, Try.ntmps8
  go_wp2_with fail
  refine C1.out.mono ?_
  rintro e w1 (⟨rfl, hb⟩ | ⟨rb, own, cb, ab, cap, t, rfl, hR⟩)
  · have HB := Lib.hid hb
    clear hb C1
    go_wp2_with fail
    refine (AW.out _).mono ?_
    rintro e w2 ⟨rfl, hb⟩
    have HB2 := Lib.hid (HB.out.trans (hb.mono HB.out.size))
    clear hb
    go_wp2
    go_ret
    exact ⟨rfl, HB2.out⟩
  · have HR := Lib.hid hR
    clear hR C1
    go_wp2_with fail
    go_loopw [37] (fun i wr => ∃ (k : Nat) (own : Own) (t : St.T), k ≤ k1 ∧ i = .int .i64 (k : Int) ∧ Hid (Rn w0 own rb cb ab cap t wr)) (fun i _ => k1 - (intOf i).toNat)
    case atStart => exact ⟨0, own, t, by omega, rfl, HR⟩
    case round =>
      clear HR
      obtain ⟨k, own, t, hk, rfl, HR⟩ := hrel
      by_cases hlt : k < k1
      · obtain ⟨x, hx⟩ : ∃ x, l1[k]? = some x := ⟨_, List.getElem?_eq_getElem (by have := h1.out; omega)⟩
        obtain ⟨g, off, rfl, hg, hc⟩ := N1.out (by have := h1.out; omega)
        have c0 := hc k (by have := h1.out; omega)
        rw [List.getD_eq_getElem?_getD, hx, Option.getD_some] at c0
        have hbw : Below w.heap.size w wr := HW0.out.trans (HR.out.ow.bel.mono HW0.out.size)
        have c0 := cell_of hbw c0
        have hgr := Nat.lt_of_lt_of_le hg hbw.size
        have j1 : (k : Int) < (k1 : Int) := by omega
        have ST := Lib.hid (HR.out.stepC x)
        clear hc hx hbw hg
        go_wp2_with fail
        refine ST.out.mono ?_
        rintro e w3 ⟨rfl, hG⟩
        obtain ⟨own', hR', _⟩ := HR.out.gone x hG
        have HR' := Lib.hid hR'
        clear hG hR' ST HR
        go_wp2_with fail
        exact ⟨⟨k + 1, own', _, by omega, by go_num, HR'⟩, by simp [intOf]; omega⟩
      · obtain rfl : k = k1 := by omega
        have CC := Lib.hid HR.out.copyC
        have HBR := Lib.hid HR.out.ow.bel
        clear HR
        go_wp2_with fail
        refine CC.out.mono ?_
        rintro e w5 ⟨rb2, cb2, ab2, cap2, o1, o2, rfl, hP, hb⟩
        have RC := Lib.hid hP.restC
        have HP := Lib.hid hP
        have HB5 := Lib.hid (HBR.out.trans (hb.mono HBR.out.size))
        unfold numsPost at RC
        clear hP hb CC
        go_wp2_with fail
        refine RC.out.mono ?_
        rintro e w6 ⟨pw, cw, rfl, k3, k4, k5, k6⟩
        have HC := Lib.hid (cs_start HP.out HB5.out k6 k5)
        obtain ⟨nw, hnw⟩ : ∃ z, z = t.d.rest.length := ⟨_, rfl⟩
        rw [← hnw] at HC ⊢
        clear k3 k4 k5 k6 RC HP HBR hnw
        have tt : (2000 : Nat) ≤ maxLen := by decide
        go_wp2_with fail
        go_loopw [13, 57] (fun v i wr => ∃ (k : Nat) (pv : Option Addr) (cv : Nat), k ≤ k2 ∧ i = .int .i64 (k : Int) ∧ v = .slice pv k cv ∧ Hid (CsX w0 wr rb cb ab cap t rb2 cb2 ab2 cap2 (runB t (l2.take k)).1 (runB t (l2.take k)).2 [] v (.slice none 0 0) t.d.rest (.slice pw nw cw))) (fun _ i _ => k2 - (intOf i).toNat)
        case atStart => exact ⟨0, none, 0, by omega, rfl, rfl, HC⟩
        case round =>
          clear HC
          obtain ⟨k', pv, cv, hk', rfl, rfl, HC⟩ := hrel
          by_cases hlt2 : k' < k2
          · obtain ⟨x, hx⟩ : ∃ x, l2[k']? = some x := ⟨_, List.getElem?_eq_getElem (by have := h2.out; omega)⟩
            obtain ⟨g, off, rfl, hg, hc⟩ := N2.out (by have := h2.out; omega)
            have c0 := hc k' (by have := h2.out; omega)
            rw [List.getD_eq_getElem?_getD, hx, Option.getD_some] at c0
            have hbw : Below w.heap.size w wr := HW0.out.trans (HC.out.row1.2.mono HW0.out.size)
            have c0 := cell_of hbw c0
            have hgr := Nat.lt_of_lt_of_le hg hbw.size
            have j1 : (k' : Int) < (k2 : Int) := by omega
            have HRB := Lib.hid (runB_succ t l2 k' x hx)
            have HL : Hid ((runB t (l2.take k')).2.length = k') := Lib.hid (by rw [runB_len, List.length_take]; have := h2.out; omega)
            rcases hz : runB t (l2.take k') with ⟨tk, S⟩
            rw [hz] at HC HRB HL
            simp only at HC HRB HL
            have ST := Lib.hid (HC.out.swap.stepC x)
            clear hc hx hbw hg hz
            go_wp2_with fail
            refine ST.out.mono ?_
            rintro e w7 ⟨rfl, hX⟩
            have HX := Lib.hid hX.swap
            obtain ⟨b, hb⟩ : ∃ b, b = (tk.step x).2 := ⟨_, rfl⟩
            rw [← hb] at HRB ⊢
            have HRS : Hid (w7.ownsRow w0.heap.size 4 1 (.slice pv k' cv) k' (bools S)) := Lib.hid (by have := HX.out.row1.1; rw [HL.out] at this; exact this)
            have HSZ : Hid (w0.heap.size ≤ w7.heap.size) := Lib.hid HX.out.row1.2.size
            clear hX ST HC hb c0
            have tt1 : k' + 1 ≤ maxLen := by omega
            go_wp2_with (at_builtin; refine wpList_append_own_at _ (by rfl) (.tmp 61) (.tmp 65) 52 (by rfl) w0.heap.size 4 i0 (.bool false) 1 1 Try.underlying52 HI.out HZ0.out HZ1.out HZ2.out (by rfl) (by decide) (.slice pv k' cv) k' _ (by rfl) (HRS.out.alloc _) ⟨w7.heap.size, 0, none⟩ 1 1 [.bool b] (by rfl) (by rfl) (cell_one_new _ _ _) (by simp [Value.oneCell']) tt1 (by omega) (by have := HSZ.out; simp; omega) ?_)
            intro v5 w8 hown5 hG5 _ hat5
            obtain ⟨g5, cp5, rfl⟩ := ownsRow_succ hown5
            have HK : Hid (CsX w0 w8 rb cb ab cap t rb2 cb2 ab2 cap2 (runB t (l2.take (k' + 1))).1 (runB t (l2.take (k' + 1))).2 [] (.slice (some ⟨g5, 0, none⟩) (k' + 1) cp5) (.slice none 0 0) t.d.rest (.slice pw nw cw)) := Lib.hid (by
              rw [HRB.out]
              exact (HX.out.below (one w7 (.cells #[.bool b] 4))).app b (by rw [HL.out]) rfl hown5 hG5 hat5 (by simp))
            clear hown5 hG5 hat5
            go_wp2_with fail
            exact ⟨⟨k' + 1, _, _, by omega, by go_num, rfl, HK⟩, by simp [intOf]; omega⟩
          · obtain rfl : k' = k2 := by omega
            have HL : Hid ((runB t (l2.take k')).2.length = k') := Lib.hid (by rw [runB_len, List.length_take]; have := h2.out; omega)
            have hwl := HC.out.was.2
            have hrl := (HC.out.restLen 0).1
            have RC := Lib.hid HC.out.restC
            unfold numsPost at RC
            rw [← hwl] at RC
            have HWL := Lib.hid hwl
            have HRL : Hid (t.d.rest.length ≤ 1000000) := Lib.hid (by omega)
            clear hwl hrl
            go_wp2_with fail
            refine RC.out.mono ?_
            rintro e w9 ⟨p9, c9, rfl, k3, k4, k5, k6⟩
            have EQ := equalI_any w9 p9 pw c9 cw t.d.rest t.d.rest HRL.out HRL.out (nums_at (by rw [← HWL.out]; exact k5)) (HC.out.was.1.below k6)
            rw [← HWL.out, beq_self_eq_true] at EQ
            unfold still at EQ
            have EQ := Lib.hid EQ
            have HC9 := Lib.hid (HC.out.below k6)
            clear k3 k4 k5 k6 RC HC
            go_wp2_with fail
            refine EQ.out.mono ?_
            rintro e w10 ⟨rfl, hb⟩
            have HC := Lib.hid (HC9.out.below hb)
            clear hb EQ HC9
            go_wp2_with fail
            go_loopw [14, 79] (fun v i wr => ∃ (k : Nat) (pu : Option Addr) (cu : Nat), k ≤ k' ∧ i = .int .i64 (k : Int) ∧ v = .slice pu k cu ∧ Hid (CsX w0 wr rb cb ab cap (runB t (l2.take k)).1 rb2 cb2 ab2 cap2 (runB t (l2.take k')).1 (runB t (l2.take k')).2 (runB t (l2.take k)).2 (.slice pv k' cv) v t.d.rest (.slice pw nw cw))) (fun _ i _ => k' - (intOf i).toNat)
            case atStart => exact ⟨0, none, 0, by omega, rfl, rfl, HC⟩
            case round =>
              clear HC
              obtain ⟨j, pu, cu, hj, rfl, rfl, HC⟩ := hrel
              have HLj : Hid ((runB t (l2.take j)).2.length = j) := Lib.hid (by rw [runB_len, List.length_take]; have := h2.out; omega)
              by_cases hlt3 : j < k'
              · obtain ⟨x, hx⟩ : ∃ x, l2[j]? = some x := ⟨_, List.getElem?_eq_getElem (by have := h2.out; omega)⟩
                obtain ⟨g, off, rfl, hg, hc⟩ := N2.out (by have := h2.out; omega)
                have c0 := hc j (by have := h2.out; omega)
                rw [List.getD_eq_getElem?_getD, hx, Option.getD_some] at c0
                have hbw : Below w.heap.size w wr := HW0.out.trans (HC.out.row1.2.mono HW0.out.size)
                have c0 := cell_of hbw c0
                have hgr := Nat.lt_of_lt_of_le hg hbw.size
                have j1 : (j : Int) < (k' : Int) := by omega
                have HRB := Lib.hid (runB_succ t l2 j x hx)
                generalize runB t (l2.take k') = Z at HC HL ⊢
                rcases hz : runB t (l2.take j) with ⟨tk, S⟩
                rw [hz] at HC HRB HLj
                simp only at HC HRB HLj
                have ST := Lib.hid (HC.out.stepC x)
                clear hc hx hbw hg hz
                go_wp2_with fail
                refine ST.out.mono ?_
                rintro e w7 ⟨rfl, hX⟩
                have HX := Lib.hid hX
                obtain ⟨b, hb⟩ : ∃ b, b = (tk.step x).2 := ⟨_, rfl⟩
                rw [← hb] at HRB ⊢
                have HRS : Hid (w7.ownsRow w0.heap.size 4 1 (.slice pu j cu) j (bools S)) := Lib.hid (by have := HX.out.flip.row1.1; rw [HLj.out] at this; exact this)
                have HSZ : Hid (w0.heap.size ≤ w7.heap.size) := Lib.hid HX.out.row1.2.size
                clear hX ST HC hb c0
                have tt1 : j + 1 ≤ maxLen := by omega
                go_wp2_with (at_builtin; refine wpList_append_own_at _ (by rfl) (.tmp 83) (.tmp 87) 52 (by rfl) w0.heap.size 4 i0 (.bool false) 1 1 Try.underlying52 HI.out HZ0.out HZ1.out HZ2.out (by rfl) (by decide) (.slice pu j cu) j _ (by rfl) (HRS.out.alloc _) ⟨w7.heap.size, 0, none⟩ 1 1 [.bool b] (by rfl) (by rfl) (cell_one_new _ _ _) (by simp [Value.oneCell']) tt1 (by omega) (by have := HSZ.out; simp; omega) ?_)
                intro v5 w8 hown5 hG5 _ hat5
                obtain ⟨g5, cp5, rfl⟩ := ownsRow_succ hown5
                have HK : Hid (CsX w0 w8 rb cb ab cap (runB t (l2.take (j + 1))).1 rb2 cb2 ab2 cap2 Z.1 Z.2 (runB t (l2.take (j + 1))).2 (.slice pv k' cv) (.slice (some ⟨g5, 0, none⟩) (j + 1) cp5) t.d.rest (.slice pw nw cw)) := Lib.hid (by
                  rw [HRB.out]
                  exact ((HX.out.below (one w7 (.cells #[.bool b] 4))).flip.app b (by rw [HLj.out]) rfl hown5 hG5 hat5 (by simp)).flip)
                clear hown5 hG5 hat5
                go_wp2_with fail
                exact ⟨⟨j + 1, _, _, by omega, by go_num, rfl, HK⟩, by simp [intOf]; omega⟩
              · obtain rfl : j = k' := by omega
                rcases hz : runB t (l2.take j) with ⟨tk, S⟩
                rw [hz] at HC HLj HL
                simp only at HC HLj HL
                have EB := equalB wr pv pu j cv cu S HLj.out (by omega) (bools_at HLj.out (by have := HC.out.row1.1; rw [HLj.out] at this; exact this)) (bools_at HLj.out (by have := HC.out.flip.row1.1; rw [HLj.out] at this; exact this))
                unfold still at EB
                have EB := Lib.hid EB
                obtain ⟨nA, hnA⟩ : ∃ z, z = tk.d.rest.length := ⟨_, rfl⟩
                obtain ⟨nG, hnG⟩ : ∃ z, z = (tk.gotOf 0).length := ⟨_, rfl⟩
                have NA := Lib.hid hnA
                have NG := Lib.hid hnG
                have LA : Hid (tk.d.rest.length ≤ 1000000 ∧ (tk.gotOf 0).length ≤ 1000000) := Lib.hid (by have := HC.out.restLen 0; omega)
                clear hnA hnG hz HLj HL
                go_wp2_with fail
                refine EB.out.mono ?_
                rintro e w11 ⟨rfl, hb⟩
                have HC1 := Lib.hid (HC.out.below hb)
                have R1 := HC1.out.restC
                unfold numsPost at R1
                rw [← NA.out] at R1
                have R1 := Lib.hid R1
                clear hb EB HC
                go_wp2_with fail
                refine R1.out.mono ?_
                rintro e w12 ⟨pA, cA, rfl, k3, k4, k5, k6⟩
                have HA := Lib.hid (nums_at (l := tk.d.rest) (by rw [← NA.out]; exact k5))
                have HC2 := Lib.hid (HC1.out.below k6)
                have R2 := HC2.out.swap.restC
                unfold numsPost at R2
                rw [← NA.out] at R2
                have R2 := Lib.hid R2
                clear k3 k4 k5 k6 R1 HC1
                go_wp2_with fail
                refine R2.out.mono ?_
                rintro e w13 ⟨pB, cB, rfl, k3, k4, k5, k6⟩
                have EA := equalI_any w13 pA pB cA cB tk.d.rest tk.d.rest LA.out.1 LA.out.1 (HA.out.below k6) (nums_at (by rw [← NA.out]; exact k5))
                rw [← NA.out, beq_self_eq_true] at EA
                unfold still at EA
                have EA := Lib.hid EA
                have HC3 := Lib.hid (HC2.out.below k6)
                clear k3 k4 k5 k6 R2 HC2 HA
                go_wp2_with fail
                refine EA.out.mono ?_
                rintro e w14 ⟨rfl, hb⟩
                have HC4 := Lib.hid (HC3.out.below hb)
                have R3 := HC4.out.gotC 0
                unfold numsPost at R3
                rw [← NG.out] at R3
                have R3 := Lib.hid R3
                clear hb EA HC3
                go_wp2_with fail
                refine R3.out.mono ?_
                rintro e w15 ⟨pC, cC, rfl, k3, k4, k5, k6⟩
                have HA := Lib.hid (nums_at (l := tk.gotOf 0) (by rw [← NG.out]; exact k5))
                have HC5 := Lib.hid (HC4.out.below k6)
                have R4 := HC5.out.swap.gotC 0
                unfold numsPost at R4
                rw [← NG.out] at R4
                have R4 := Lib.hid R4
                clear k3 k4 k5 k6 R3 HC4
                go_wp2_with fail
                refine R4.out.mono ?_
                rintro e w16 ⟨pD, cD, rfl, k3, k4, k5, k6⟩
                have EA := equalI_any w16 pC pD cC cD (tk.gotOf 0) (tk.gotOf 0) LA.out.2 LA.out.2 (HA.out.below k6) (nums_at (by rw [← NG.out]; exact k5))
                rw [← NG.out, beq_self_eq_true] at EA
                unfold still at EA
                have EA := Lib.hid EA
                have HB6 := Lib.hid (HW0.out.trans ((HC5.out.below k6).row1.2.mono HW0.out.size))
                clear k3 k4 k5 k6 R4 HC5 HA
                go_wp2_with fail
                refine EA.out.mono ?_
                rintro e w17 ⟨rfl, hb⟩
                have HB7 := Lib.hid (HB6.out.trans (hb.mono HB6.out.size))
                clear hb EA
                go_wp2_with fail
                refine (AW.out _).mono ?_
                rintro e w18 ⟨rfl, hb⟩
                have HB8 := Lib.hid (HB7.out.trans (hb.mono HB7.out.size))
                clear hb
                go_wp2
                go_ret
                exact ⟨rfl, HB8.out⟩
end Go.Proofs.Ytajccigefoddiaa
