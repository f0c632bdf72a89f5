/- LedgerOnce. -/
import Derived.Test.YtapbghkoijmjeaaSortU
import Derived.Test.YtapbghkoijmjeaaOnceRel
import Derived.Test.YtapbghkoijmjeaaFrame
namespace Go.Proofs.Ytapbghkoijmjeaa
set_option linter.unusedVariables false
set_option linter.unusedSimpArgs false
open Go.RowKit Go.Shelf
/-- A log in memory that the ledger does not reach. -/
def LogAt (w wr : World) (own : Own) (v : Value) (l : List Ld.En) : Prop := wr.ownsRow w.heap.size 46 4 v l.length (l.flatMap loC) ∧ ∀ r, v.ownBlock = some r → own r = none
theorem LogAt.below {w wr w2 : World} {own : Own} {v : Value} {l : List Ld.En} (h : LogAt w wr own v l) (hb : Below wr.heap.size wr w2) : LogAt w w2 own v l :=
  ⟨owns_fr h.1 (Fr.of_below (S := none_) hb) (fun _ _ h => h), h.2⟩
/-- A ledger in memory of the call, and what is true of its entries. -/
structure OnR (w wr : World) (t : Ld.T) (own : Own) : Prop where
  ow : Ow w own w.heap.size t wr
  inv : Ld.Inv t
  tp : (times t.es).Perm (upTo t.time)
theorem OnR.below {w wr w2 : World} {t : Ld.T} {own : Own} (h : OnR w wr t own) (hb : Below wr.heap.size wr w2) : OnR w w2 t own := ⟨h.ow.below hb, h.inv, h.tp⟩
theorem OnR.step {w wr w2 : World} {t : Ld.T} {own : Own} {v : Value} {l : List Ld.En} (h : OnR w wr t own) (hl : LogAt w wr own v l) (o : Op) (hG : Gone wr own w.heap.size (Ld.step t o) w2) : ∃ own', OnR w w2 (Ld.step t o) own' ∧ LogAt w w2 own' v l := by
  obtain ⟨own', hO, hk, hF⟩ := h.ow.gone hG (h.inv.step o).ok
  exact ⟨own', ⟨hO, h.inv.step o, (Adv.step h.inv o).2 h.tp⟩, owns_fr hl.1 hF (fun r e hx => hx (hl.2 r e)), fun r e => by rw [hk r (hl.1.lt r e).2]; exact hl.2 r e⟩
theorem onr0 {w w1 : World} (h : Ow w (own0 w.heap.size) w.heap.size Ld.new w1) : OnR w w1 Ld.new (own0 w.heap.size) := ⟨h, inv0, by simp [Ld.new, times, upTo]⟩
theorem log_open {w wr w2 : World} {t : Ld.T} {own : Own} {v : Value} (h : OnR w wr t own) (hT : LogR wr w2 v t.es) : OnR w w2 t own ∧ LogAt w w2 own v t.es := by
  obtain ⟨L, hL⟩ := h.ow.rep
  refine ⟨h.below hT.2, ⟨hT.1.1, hT.1.2.imp id fun ⟨g, c, cur, a, b, d⟩ => ⟨g, c, cur, a, Nat.le_trans h.ow.bel.size b, d⟩⟩, fun r e => hL.not_own (hT.1.lt r e).1⟩
theorem LogAt.cells {w wr W : World} {own : Own} {p : Option Addr} {c : Nat} {l : List Ld.En} (h : LogAt w wr own (.slice p l.length c) l) (hb : Below wr.heap.size wr W) {i : Nat} {x : Ld.En} (hx : l[i]? = some x) : ∃ g, p = some ⟨g, 0, none⟩ ∧ g < wr.heap.size ∧
    W.cell? ⟨g, i * 4, none⟩ = some (.int .i64 x.what) ∧ W.cell? ⟨g, i * 4 + 1, none⟩ = some (.int .i64 x.task) ∧ W.cell? ⟨g, i * 4 + 2, none⟩ = some (.int .i64 x.frm) ∧ W.cell? ⟨g, i * 4 + 3, none⟩ = some (.int .i64 x.to_) := by
  have hi := (List.getElem?_eq_some_iff.1 hx).1
  have hg : ∃ g, p = some ⟨g, 0, none⟩ := by
    rcases h.1.2 with ⟨h1, h0⟩ | ⟨g, cap', cur, h1, _⟩
    · omega
    · cases h1; exact ⟨g, rfl⟩
  obtain ⟨g, rfl⟩ := hg
  have key : ∀ j u, j < 4 → (loC x)[j]? = some u → W.cell? ⟨g, i * 4 + j, none⟩ = some u := fun j u hj hu => by
    have := h.1.cells (g := g) rfl (i * 4 + j) u (by rw [flat_get (f := loC) (sz := 4) (fun _ => rfl) l i j x hx hj]; exact hu)
    rw [add_off, Nat.zero_add] at this
    exact cell_of hb this
  exact ⟨g, rfl, (h.1.lt g rfl).2, key 0 _ (by omega) rfl, key 1 _ (by omega) rfl, key 2 _ (by omega) rfl, key 3 _ (by omega) rfl⟩
theorem times_len : ∀ l : List Ld.En, (times l).length ≤ 2 * l.length
  | [] => by simp [times]
  | e :: l => by
    have := times_len l
    simp only [times, List.flatMap_cons, List.length_append, List.length_cons] at this ⊢
    have h2 : (timesE e).length ≤ 2 := by unfold timesE; split <;> simp
    omega
theorem times_take {l : List Ld.En} {i : Nat} {e : Ld.En} (h : l[i]? = some e) : times (l.take (i + 1)) = times (l.take i) ++ timesE e := by
  rw [take_snoc' h]
  simp [times]
/-- A number is appended to a row in memory of the call. -/
theorem tim_grow {W0 A B C : World} {pv : Option Addr} {j cv : Nat} {l : List Int} {z : Int} {v5 : Value} (hT : NumsR W0 A (.slice pv j cv) l) (hj : j = l.length) (hAB : Below A.heap.size A B) (hG : B.grownBy C (Value.slice pv j cv).ownBlock)
    (hown : C.ownsRow W0.heap.size 3 1 v5 (j + 1) (l.map (Value.int .i64) ++ [.int .i64 z])) : NumsR W0 C v5 (l ++ [z]) ∧ Fr (fun x => (Value.slice pv j cv).ownBlock = some x) B C ∧ ∃ g c, v5 = .slice (some ⟨g, 0, none⟩) (j + 1) c ∧ j + 1 ≤ c ∧ c ≤ maxLen := by
  have hz := hAB.size
  have hz2 := hT.2.size
  subst hj
  refine ⟨⟨by rw [List.length_append, List.map_append]; exact hown, (hT.2.trans (hAB.mono hz2)).grown hG (by omega) (fun b e => (hT.1.lt b e).1)⟩, (Fr.refl _ _).grown hG (fun x e => .inl e) (fun x e => ?_), ?_⟩
  · rcases hT.1.2 with ⟨h1, _⟩ | ⟨g, c, cur, h1, h2, h3, _⟩
    · rw [h1] at e; simp [Value.ownBlock] at e
    · rw [h1] at e
      simp only [Value.ownBlock, Option.some.injEq] at e
      subst e
      exact ⟨cur, 3, (0, 0), (hAB.block g (Array.getElem?_eq_some_iff.1 h3).1).trans h3⟩
  · rcases hown.2 with ⟨e, h0⟩ | ⟨g', cap', cur, e, h1, h2, h3, h4, h5⟩
    · omega
    · exact ⟨g', cap', e, h3, h4⟩
set_option maxRecDepth 100000 in
set_option maxHeartbeats 8000000 in
theorem law_once (w : World) (p : Option Addr) (cap : Nat) (Lo : List Op) (hL : OpsIn w p cap Lo) : Calls Try.prog 5 #[.slice p Lo.length cap] w (still w (.bool true)) := by
  unfold still
  have N := Lib.hid (new_any w)
  unfold newPost at N
  have AW := Lib.hid awake_any
  unfold still at AW
  have HL := Lib.hid hL
  obtain ⟨n, hn⟩ : ∃ n, n = min Lo.length 100 := ⟨_, rfl⟩
  have HN := Lib.hid hn
  have hn1 : (min (Lo.length : Int) 100) = (n : Int) := by omega
  have hcl := hL.le
  have hcm := hL.cap
  unfold maxLen at hcm
  obtain ⟨ln, hln⟩ : ∃ ln, ln = Lo.length := ⟨_, rfl⟩
  have HLN := Lib.hid hln
  rw [← hln] at hn1 hcl ⊢
  have hnl : n ≤ ln := by omega
  have hn100 : n ≤ 100 := by omega
  clear hL hn hln
  go_enter Try.func5, Try.ntmps5
  go_wp2_with fail
  refine N.out.mono ?_
  rintro e w1 ⟨rfl, hO1⟩
  have HS : Hid (OnR w w1 Ld.new (own0 w.heap.size)) := Lib.hid (onr0 hO1)
  clear hO1 N
  go_wp2_with fail
  go_loopw [4, 23] (fun v i wr => ∃ (k : Nat) (t : Ld.T) (own : Own) (p : Option Addr) (c : Nat), k ≤ n ∧ i = .int .i64 (k : Int) ∧ v = .slice p t.es.length c ∧ Hid (OnR w wr t own) ∧ Hid (LogAt w wr own (.slice p t.es.length c) t.es)) (fun _ i _ => n - (intOf i).toNat)
  case atStart => exact ⟨0, _, _, none, 0, Nat.zero_le _, rfl, rfl, HS, Lib.hid ⟨World.ownsRow_nil _ _ _ _, by simp [Value.ownBlock]⟩⟩
  case round =>
    obtain ⟨k, t, own, pw, cw, hk, rfl, rfl, HR, HT⟩ := hrel
    clear HS
    by_cases hlt : k < n
    · obtain ⟨o, ho⟩ : ∃ o, Lo[k]? = some o := ⟨_, List.getElem?_eq_getElem (by have := HLN.out; omega)⟩
      obtain ⟨ab, ao, rfl, hab, c0, c1, c2⟩ := HL.out.cells ho HR.out.ow.bel
      have habr : ab < wr.heap.size := Nat.lt_of_lt_of_le hab HR.out.ow.bel.size
      have j1 : (k : Int) < (n : Int) := by omega
      have A : Hid (∀ W, Below wr.heap.size wr W → Calls Try.prog 24 #[ptr w.heap.size, opV o] W (runPost W own w.heap.size (Ld.step t o))) := Lib.hid fun W hW => by
        obtain ⟨L, hL⟩ := (HR.out.below hW).ow.rep
        exact run_any hL HR.out.inv.ok o
      unfold runPost opV at A
      have HT' : Hid (t.es.length ≤ 400) := Lib.hid HR.out.inv.n400
      have BO := Lib.hid (Blk.new wr #[.int .i64 o.kd, .int .i64 o.task, .int .i64 o.what] 30)
      clear ho hab
      go_wp2_with fail
      refine (A.out _ (one _ _)).mono ?_
      rintro e w2 ⟨rfl, hG⟩
      obtain ⟨own2, hR2, hT2⟩ := HR.out.step HT.out o (Gone.from_ (one wr _) hG)
      have hAdv := (Adv.step HR.out.inv o).1
      have HE := Lib.hid hAdv.at_
      have hle := hAdv.len
      clear hG A hAdv BO c0 c1 c2
      generalize Ld.step t o = t2 at *
      have hn4 : t2.es.length ≤ 400 := hR2.inv.n400
      obtain ⟨L2, hL2⟩ := hR2.ow.rep
      have LG := Lib.hid (log_any hL2 (by omega))
      unfold logPost at LG
      have HR2 := Lib.hid hR2
      have HT2 := Lib.hid hT2
      clear hL2 hR2 hT2 HR HT
      go_wp2_with fail
      refine LG.out.mono ?_
      rintro e w3 ⟨p3, c3, rfl, h31, h32, hT3⟩
      obtain ⟨hR3, hT3'⟩ := log_open HR2.out hT3
      have HR3 := Lib.hid hR3
      have HT3 := Lib.hid hT3'
      have HT4 := Lib.hid (HT2.out.below hT3.2)
      clear hT3 hR3 hT3' LG HR2 HT2
      have j2 : decide ((t2.es.length : Int) < (t.es.length : Int)) = false := by simp; omega
      have j3 : decide (t2.es.length < t.es.length) = false := by simp; omega
      have j4 : ¬ ((t2.es.length : Int) < (t.es.length : Int)) := by omega
      go_wp2_with fail
      go_loopw [39] (fun v wr => ∃ i : Nat, i ≤ t.es.length ∧ v = .int .i64 (i : Int) ∧ Hid (Below w3.heap.size w3 wr)) (fun v _ => t.es.length - (intOf v).toNat)
      case atStart => exact ⟨0, Nat.zero_le _, rfl, Lib.hid (Below.refl _ _)⟩
      case round =>
        obtain ⟨i, hi, rfl, HBE⟩ := hrel
        by_cases hil : i < t.es.length
        · obtain ⟨x, hx⟩ : ∃ x, t.es[i]? = some x := ⟨_, List.getElem?_eq_getElem hil⟩
          obtain ⟨y, hy, y1, y2, y3, y4⟩ := HE.out i x hx
          obtain ⟨g, rfl, hg, x0, x1, x2, x3⟩ := HT4.out.cells HBE.out hx
          obtain ⟨g3, rfl, hg3, z0, z1, z2, z3⟩ := HT3.out.cells HBE.out hy
          obtain ⟨xw, xt, xf, xo, xc, xl⟩ := x
          obtain ⟨yw, yt, yf, yo, yc, yl⟩ := y
          simp only at x0 x1 x2 x3 z0 z1 z2 z3 y1 y2 y3 y4
          subst y1 y2 y3
          have hz := HBE.out.size
          have q1 : g < wr.heap.size := Nat.lt_of_lt_of_le hg hz
          have q2 : g3 < wr.heap.size := Nat.lt_of_lt_of_le hg3 hz
          have j5 : (i : Int) < (t.es.length : Int) := by omega
          have j6 : (i : Int) < (t2.es.length : Int) := by omega
          clear hx hy
          by_cases hxo : xo = 0
          · subst hxo
            clear y4
            go_wp2_with fail
            exact ⟨⟨i + 1, by omega, by go_num, Lib.hid ((HBE.out.alloc hz _).alloc (by simp; omega) _)⟩, by simp [intOf]; omega⟩
          · have h4 := y4 hxo
            have hx5 : (xo == 0) = false := by simpa using hxo
            have hx6 : (xo != 0) = true := by simpa using hxo
            cases h4
            clear y4
            go_wp2_with fail
            exact ⟨⟨i + 1, by omega, by go_num, Lib.hid ((HBE.out.alloc hz _).alloc (by simp; omega) _)⟩, by simp [intOf]; omega⟩
        · obtain rfl : i = t.es.length := by omega
          have HR5 := Lib.hid (HR3.out.below HBE.out)
          have HT5 := Lib.hid (HT3.out.below HBE.out)
          go_wp2
          go_roundw
          case rel => exact ⟨k + 1, t2, own2, p3, c3, by omega, by go_num, rfl, HR5, HT5⟩
          case measure => simp [intOf]; omega
    · obtain rfl : k = n := by omega
      obtain ⟨m, hm⟩ : ∃ m, m = t.es.length := ⟨_, rfl⟩
      have hm4 : m ≤ 400 := by rw [hm]; exact HR.out.inv.n400
      have HM := Lib.hid hm
      rw [← hm] at HT ⊢
      obtain ⟨i0, hi, hz0, hz1, hz2⟩ := info_parts info3
      have HI := Lib.hid hi; have HZ0 := Lib.hid hz0; have HZ1 := Lib.hid hz1; have HZ2 := Lib.hid hz2
      have hml : (2000000 : Nat) ≤ maxLen := by decide
      have HML := Lib.hid hml
      clear hm hi hz0 hz1 hz2
      obtain ⟨W0, hW0⟩ : ∃ W0, W0 = wr := ⟨_, rfl⟩
      rw [← hW0] at HR HT ⊢
      clear hW0 wr
      go_wp2_with fail
      go_loopw [11, 82] (fun v i wr => ∃ (j : Nat) (pv : Option Addr) (cv : Nat), j ≤ m ∧ i = .int .i64 (j : Int) ∧ v = .slice pv (times (t.es.take j)).length cv ∧ Hid (NumsR W0 wr (.slice pv (times (t.es.take j)).length cv) (times (t.es.take j)))) (fun _ i _ => m - (intOf i).toNat)
      case atStart => exact ⟨0, none, 0, Nat.zero_le _, rfl, by simp [times], Lib.hid ⟨by simpa [times] using World.ownsRow_nil W0 W0.heap.size 3 1, Below.refl _ _⟩⟩
      case round =>
        obtain ⟨i, pv, cv, hi, rfl, rfl, HN1⟩ := hrel
        by_cases hil : i < m
        · obtain ⟨x, hx⟩ : ∃ x, t.es[i]? = some x := ⟨_, List.getElem?_eq_getElem (by have := HM.out; omega)⟩
          have hT := HT.out
          rw [HM.out] at hT
          obtain ⟨g, rfl, hg, x0, x1, x2, x3⟩ := hT.cells HN1.out.2 hx
          have hord := HR.out.inv.ord i x hx
          have HTT := Lib.hid (times_take hx)
          obtain ⟨xw, xt, xf, xo, xc, xl⟩ := x
          simp only at x0 x1 x2 x3 hord
          have hz := HN1.out.2.size
          have q1 : g < wr.heap.size := Nat.lt_of_lt_of_le hg hz
          have j5 : (i : Int) < (m : Int) := by omega
          obtain ⟨T, hTe⟩ : ∃ T, T = times (t.es.take i) := ⟨_, rfl⟩
          have hTl : T.length ≤ 800 := by
            have := times_len (t.es.take i)
            rw [List.length_take] at this
            rw [hTe]; omega
          rw [← hTe] at HN1 HTT ⊢
          obtain ⟨q, hq⟩ : ∃ q, q = T.length := ⟨_, rfl⟩
          rw [← hq] at HN1 ⊢ hTl
          have HQ := Lib.hid hq
          have hrow := HN1.out.1
          rw [← hq] at hrow
          have HROW := Lib.hid hrow
          clear hx hT hTe hq hrow
          have t1 : q + 1 ≤ maxLen := by have := HML.out; omega
          go_wp2_with (at_builtin; refine wpList_append_own_at _ (by rfl) (.tmp 86) (.tmp 89) 36 (by rfl) W0.heap.size 3 i0 (.int .i64 0) 1 8 Try.underlying36 HI.out HZ0.out HZ1.out HZ2.out (by rfl) (by decide) (.slice pv q cv) q _ (by rfl) ((HROW.out.alloc _).alloc _) ⟨wr.heap.size + 1, 0, none⟩ 1 1 [.int .i64 xf] (by rfl) (by rfl) (by have := cell_one_new (wr.alloc (.cells #[.int .i64 xw, .int .i64 xt, .int .i64 xf, .int .i64 xo] 46)) (.int .i64 xf) 3; simpa using this) (by simp [Value.oneCell']) t1 (by omega) (by simp; omega) ?_)
          intro v5 w5 hown5 hG5 _ hat5
          have hB1 : Below wr.heap.size wr ((wr.alloc (.cells #[.int .i64 xw, .int .i64 xt, .int .i64 xf, .int .i64 xo] 46)).alloc (.cells #[.int .i64 xf] 3)) := ((Below.refl _ _).alloc (Nat.le_refl _) _).alloc (by simp) _
          obtain ⟨hN5, hF5, g5, c5, rfl, -, -⟩ := tim_grow HN1.out HQ.out hB1 hG5 hown5
          have hX5 := ((Blk.new wr #[.int .i64 xw, .int .i64 xt, .int .i64 xf, .int .i64 xo] 46).below (one _ (.cells #[.int .i64 xf] 3)) (by simp)).fr hF5 (fun e => by have := (HROW.out.lt _ e).2; omega)
          have HX5 := Lib.hid hX5
          have HNE : Hid (g5 ≠ wr.heap.size) := Lib.hid (by
            rcases hat5 with e | e
            · have := (HROW.out.lt g5 e.symm).2; omega
            · simp only [Value.ownBlock, Option.some.injEq] at e; omega)
          have HN5 := Lib.hid hN5
          have k2 := hX5.cell 2 _ rfl
          have k3 := hX5.cell 3 _ rfl
          have k0 := hX5.lt
          have hz5 : W0.heap.size ≤ w5.heap.size := hN5.2.size
          clear hown5 hG5 hB1 hF5 hX5 hN5 x0 x1 x2 x3 hat5
          by_cases hxo : xo = 0
          · subst hxo
            have HT1 : Hid (times (t.es.take (i + 1)) = T ++ [xf]) := Lib.hid (by rw [HTT.out]; rfl)
            have HL1 : Hid ((T ++ [xf]).length = q + 1) := Lib.hid (by rw [HQ.out]; simp)
            clear hord
            go_wp2_with fail
            exact ⟨⟨i + 1, some ⟨g5, 0, none⟩, c5, by omega, by go_num, by rw [HT1.out, HL1.out], Lib.hid (by rw [HT1.out, HL1.out]; exact HN5.out)⟩, by simp [intOf]; omega⟩
          · have hlo : xf < xo := by rcases hord.2.2 with h | h; · exact absurd h hxo
                                     · exact h.1
            have hx5 : (xo == 0) = false := by simpa using hxo
            have hx6 : (xo != 0) = true := by simpa using hxo
            have hx7 : decide (xo ≤ xf) = false := by simp; omega
            have HT1 : Hid (times (t.es.take (i + 1)) = T ++ [xf] ++ [xo]) := Lib.hid (by rw [HTT.out, List.append_assoc]; simp [timesE, hxo])
            have HL1 : Hid ((T ++ [xf]).length = q + 1) := Lib.hid (by rw [HQ.out]; simp)
            have HL2 : Hid ((T ++ [xf] ++ [xo]).length = q + 1 + 1) := Lib.hid (by rw [HQ.out]; simp)
            have hrow5 := HN5.out.1
            rw [HL1.out] at hrow5
            have HROW5 := Lib.hid hrow5
            clear hrow5
            have t2 : q + 1 + 1 ≤ maxLen := by have := HML.out; omega
            go_wp2_with (at_builtin; refine wpList_append_own_at _ (by rfl) (.tmp 94) (.tmp 97) 36 (by rfl) W0.heap.size 3 i0 (.int .i64 0) 1 8 Try.underlying36 HI.out HZ0.out HZ1.out HZ2.out (by rfl) (by decide) (.slice (some ⟨g5, 0, none⟩) (q + 1) c5) (q + 1) _ (by rfl) (HROW5.out.alloc _) ⟨w5.heap.size, 0, none⟩ 1 1 [.int .i64 xo] (by rfl) (by rfl) (cell_one_new _ _ _) (by simp [Value.oneCell']) t2 (by omega) (by simp; omega) ?_)
            intro v6 w6 hown6 hG6 _ _
            have hB2 : Below w5.heap.size w5 (w5.alloc (.cells #[.int .i64 xo] 3)) := one _ _
            obtain ⟨hN6, hF6, g6, c6, rfl, -, -⟩ := tim_grow (z := xo) HN5.out HL1.out.symm hB2 hG6 (by rw [List.map_append, List.append_assoc]; exact hown6)
            have hX6 := (HX5.out.below hB2 HX5.out.lt).fr hF6 (fun e => HNE.out (by simpa [Value.ownBlock] using e))
            have HN6 := Lib.hid hN6
            have l2 := hX6.cell 2 _ rfl
            have l3 := hX6.cell 3 _ rfl
            have l0 := hX6.lt
            clear hown6 hG6 hB2 hF6 hX6 hN6 k2 k3 k0
            go_wp2_with fail
            exact ⟨⟨i + 1, some ⟨g6, 0, none⟩, c6, by omega, by go_num, by rw [HT1.out, HL2.out], Lib.hid (by rw [HT1.out, HL2.out]; exact HN6.out)⟩, by simp [intOf]; omega⟩
        · obtain rfl : i = m := by omega
          have HE : Hid (times (t.es.take i) = times t.es) := Lib.hid (by rw [HM.out, List.take_length])
          rw [HE.out] at HN1 ⊢
          obtain ⟨T, hTe⟩ : ∃ T, T = times t.es := ⟨_, rfl⟩
          rw [← hTe] at HN1 ⊢
          have hTl : T.length ≤ 800 := by
            have := times_len t.es
            rw [← HM.out] at this
            rw [hTe]; omega
          have HSO : Hid (sorted T = upTo T.length) := Lib.hid (by
            have h1 := HR.out.tp
            rw [← hTe] at h1
            have h2 := h1.length_eq
            rw [upTo_len] at h2
            rw [h2]
            exact sorted_perm h1 (upTo_asc _))
          have SR := Lib.hid (sort_row wr T (by omega) HN1.out.1)
          clear hTe
          go_wp2_with fail
          refine SR.out.mono ?_
          rintro e w7 ⟨rfl, hrow7, hF7⟩
          rw [HSO.out] at hrow7
          have HROW7 := Lib.hid hrow7
          have HB7 : Hid (Below w.heap.size w w7) := Lib.hid (HR.out.ow.bel.trans ((HN1.out.2.trans (hF7.below (fun x hx => (HN1.out.1.lt x hx).1) HN1.out.2.size)).mono HR.out.ow.bel.size))
          clear hF7 hrow7 SR
          go_wp2_with fail
          go_loopw [114] (fun v wr => ∃ j : Nat, j ≤ T.length ∧ v = .int .i64 (j : Int) ∧ wr = w7) (fun v _ => T.length - (intOf v).toNat)
          case atStart => exact ⟨0, Nat.zero_le _, rfl, rfl⟩
          case round =>
            obtain ⟨j, hj, rfl, rfl⟩ := hrel
            by_cases hjl : j < T.length
            · obtain ⟨m2, hm2⟩ : ∃ m2, T.length = m2 + 1 := ⟨T.length - 1, by omega⟩
              have hrow := HROW7.out
              rw [hm2] at hrow
              obtain ⟨g, cap2, hpe⟩ := ownsRow_succ hrow
              cases hpe
              have cg : wr.cell? ⟨g, j, none⟩ = some (.int .i64 ((j : Int) + 1)) := by
                have := hrow.cells (g := g) rfl j (.int .i64 ((j + 1 : Nat) : Int)) (by rw [List.getElem?_map, ← hm2, upTo_get hjl]; rfl)
                rw [add_off, Nat.zero_add] at this
                exact this
              have dg := World.block_lt_of_cell? _ _ cg
              have j1 : (j : Int) < (T.length : Int) := by omega
              have j2 : IntKind.i64.wrap ((j : Int) + 1) = (j : Int) + 1 := IntWalk.i64_in _ (by omega)
              clear hrow hm2
              go_wp2
              go_roundw
              case rel => exact ⟨j + 1, by omega, by go_num, trivial⟩
              case measure => simp [intOf]; omega
            · obtain rfl : j = T.length := by omega
              go_wp2_with fail
              refine (AW.out _).mono ?_
              rintro e w8 ⟨rfl, hb⟩
              have HW8 : Hid (Below w.heap.size w w8) := Lib.hid (HB7.out.trans (hb.mono HB7.out.size))
              clear hb
              go_wp2
              go_ret
              exact ⟨rfl, HW8.out⟩
theorem law_once_c (v : Value) (w : World) (h : OpsArg w v) : Calls Try.prog 5 #[v] w fun e w' => e = .returned (.bool true) ∧ Below w.heap.size w w' := by
  obtain ⟨p, cap, L, rfl, hL⟩ := h
  exact law_once w p cap L hL
end Go.Proofs.Ytapbghkoijmjeaa
