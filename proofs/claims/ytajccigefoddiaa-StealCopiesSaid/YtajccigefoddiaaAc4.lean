/- What the step of an actor does: the walk. -/
import Derived.Test.YtajccigefoddiaaAc3
namespace Go.Proofs.Ytajccigefoddiaa
set_option linter.unusedVariables false
set_option linter.unusedSimpArgs false
open Go.RowKit Go.Shelf
attribute [local go_sem] run_store_func run_store_nilf
section
variable {W W' w : World} {rb cb ab o : Nat} {av : Value} {d : St.Dq} {A : Nat → Prop}
theorem run_next_nil {v : Value} {nx : Option St.Ph} (h : PhAt w A v nx) (W : World) : (binOp .eql 89 v .nilFunc).run Try.prog W = .ok (.bool nx.isNone) W := by
  cases nx with
  | none => have e : v = .nilFunc := h; rw [e]; exact run_nil_nil W
  | some q => obtain ⟨f, fi, ca, rfl⟩ := h.fn; exact run_fn_nil _ _ _ W
theorem run_next_guard {v : Value} {nx : Option St.Ph} (h : PhAt w A v nx) (x y : Operand) (W : World) : (eqGuard .eql 89 x y v .nilFunc).run Try.prog W = .ok () W := by
  cases nx with
  | none => have e : v = .nilFunc := h; rw [e]; simp [eqGuard]
  | some q => obtain ⟨f, fi, ca, rfl⟩ := h.fn; simp [eqGuard]
theorem cut_make2 {cs : List Value} {a : St.Ac} {op : St.Op} {l : List St.Op} {tv nv gv nv' tv' : Value} (h : AcIn w rb cb ab o cs A a tv nv gv) {w2 wx : World} (hb : Below w.heap.size w w2)
    (hx : wx = (w2.setCell ⟨ab, o + 1, none⟩ nv').setCell ⟨ab, o, none⟩ tv' ∨ wx = (w2.setCell ⟨ab, o, none⟩ tv').setCell ⟨ab, o + 1, none⟩ nv') (hp : ∀ W A, PhAt W A nv' (some op.first)) (ht : TodoAt w A tv' l) : FirstCut w A ab o cs op.first l wx := by
  have hB := h.blk.below hb h.blk.lt
  have ho := (List.getElem?_eq_some_iff.1 h.c0).1
  have ho1 := (List.getElem?_eq_some_iff.1 h.c1).1
  have hF : Fr (fun k => k = ab) w wx := by
    rcases hx with rfl | rfl <;> exact ((Fr.of_below hb : Fr (fun k => k = ab) w w2).set (b := ab) (.inl rfl) _ _).set (b := ab) (.inl rfl) _ _
  refine ⟨tv', nv', ht.fr hF (fun k hk _ => ⟨hk, fun e => (h.apart k hk).2.2.1 e⟩), hp _ _, ?_, hF⟩
  rcases hx with rfl | rfl
  · have := (hB.set (o := o + 1) ho1 nv').set (o := o) (by simpa using ho) tv'
    rwa [List.set_comm _ _ (by omega)] at this
  · exact (hB.set (o := o) ho tv').set (o := o + 1) (by simpa using ho1) nv'
theorem step_at {d : St.Dq} {a : St.Ac} {p : St.Ph} {l : List St.Op} (hat : a.at = some (p, l)) : a.step d = some ((p.run d).1, ⟨l, (p.run d).2.1, if (p.run d).2.1.isNone then a.got ++ [(p.run d).2.2] else a.got⟩) := by
  unfold St.Ac.step; rw [hat]
set_option maxRecDepth 100000 in
set_option maxHeartbeats 4000000 in
theorem step_any {cs : List Value} {a : St.Ac} {tv nv gv : Value} (h : AcIn w rb cb ab o cs A a tv nv gv) (hD : Dr w rb cb av d) {p : St.Ph} {l : List St.Op} (hat : a.at = some (p, l)) (hok : PhOk d p) :
    Calls Try.prog 47 #[.pointer (some ⟨ab, o, none⟩), ptr rb] w (stepPost w rb cb ab o av cs A gv (a.step d)) := by
  rw [step_at hat]
  have ID := Lib.hid h.isDone
  unfold same at ID
  rw [hat] at ID
  simp only [Option.isNone_some] at ID
  have HH := Lib.hid h
  have HAT := Lib.hid hat
  have HD := Lib.hid hD
  have hlt := h.blk.lt
  have c1 := h.blk.cell _ _ h.c1
  have HN0 := run_next_nil h.next
  have HN1 := run_next_guard h.next (.tmp 12) (.const .nilFunc)
  have HNx := Lib.hid h.next
  obtain ⟨gp, gc, eg, hg1, hg2, hg3⟩ := owns_form h.got
  have hgl := h.gl
  obtain ⟨gn, hgn⟩ : ∃ gn, gn = a.got.length := ⟨_, rfl⟩
  have HGN := Lib.hid hgn
  obtain ⟨i0, hi, hz0, hz1, hz2⟩ := info_parts info3
  have HI := Lib.hid hi; have HZ0 := Lib.hid hz0; have HZ1 := Lib.hid hz1; have HZ2 := Lib.hid hz2
  have hml : (2000000 : Nat) ≤ maxLen := by decide
  have HQ : Hid (∀ wx tv nv, TodoAt wx A tv l → Blk wx ab ((cs.set o tv).set (o + 1) nv) → Fr (fun k => k = ab) w wx → ∀ w2 nv2, Dr w2 rb cb av (p.run d).1 → PhAt w2 (fun k => A k ∨ wx.heap.size ≤ k) nv2 (p.run d).2.1 → Fr (fun k => k = rb ∨ k = cb) wx w2 → (p.run d).2.1.isNone = false →
      stepPost w rb cb ab o av cs A gv (some ((p.run d).1, ⟨l, (p.run d).2.1, if (p.run d).2.1.isNone then a.got ++ [(p.run d).2.2] else a.got⟩)) (.returned (.bool true)) (w2.setCell ⟨ab, o + 1, none⟩ nv2)) := Lib.hid fun wx tv nv h1 h2 h3 w2 nv2 h4 h5 h6 h7 => by
    rw [h7]
    exact rest_go HH.out h1 h2 h3 h4 h5 h6
  have HE : Hid (∀ wx tv nv, TodoAt wx A tv l → Blk wx ab ((cs.set o tv).set (o + 1) nv) → Fr (fun k => k = ab) w wx → ∀ w2, Dr w2 rb cb av (p.run d).1 → Fr (fun k => k = rb ∨ k = cb) wx w2 → (p.run d).2.1 = none → ∀ x w5 gv', ((w2.setCell ⟨ab, o + 1, none⟩ .nilFunc).alloc x).grownBy w5 gv.ownBlock →
      w5.ownsRow 0 3 1 gv' (a.got.length + 1) (ints a.got ++ [.int .i64 (p.run d).2.2]) → (gv'.ownBlock = gv.ownBlock ∨ gv'.ownBlock = some (w2.heap.size + 1)) →
      stepPost w rb cb ab o av cs A gv (some ((p.run d).1, ⟨l, (p.run d).2.1, if (p.run d).2.1.isNone then a.got ++ [(p.run d).2.2] else a.got⟩)) (.returned (.bool true)) (w5.setCell ⟨ab, o + 2, none⟩ gv')) := Lib.hid fun wx tv nv h1 h2 h3 w2 h4 h6 h7 x w5 gv' h8 h9 h10 => by
    rw [h7]
    exact rest_end HH.out h1 h2 h3 h4 h6 h8 h9 h10
  have HA : Hid (∀ k, A k → k ≠ rb ∧ k ≠ cb) := Lib.hid fun k hk => ⟨(h.apart k hk).1, (h.apart k hk).2.1⟩
  have HOK := Lib.hid hok
  generalize stepPost w rb cb ab o av cs A gv (some ((p.run d).1, ⟨l, (p.run d).2.1, if (p.run d).2.1.isNone then a.got ++ [(p.run d).2.2] else a.got⟩)) = Q at *
  clear h hD hat hok hi hz0 hz1 hz2 hgn
  go_enter Try.func47, Try.ntmps47
  go_wp2_with fail
  refine ID.out.mono ?_
  rintro e w1 ⟨rfl, rfl⟩
  obtain ⟨bn, hbn⟩ : ∃ bn, bn = a.next.isNone := ⟨_, rfl⟩
  have HBN := Lib.hid hbn
  rw [← hbn] at HN0
  clear hbn
  go_upto_if 13 with fail
  go_cut [] (fun wx => FirstCut w A ab o cs p l wx)
  case first =>
    clear HQ HE HA HOK ID HD
    cases bn with
    | false =>
      have HR : Hid (FirstCut w A ab o cs p l w) := Lib.hid (by
        obtain ⟨td, nx, gt⟩ := a
        cases nx with
        | none => have := HBN.out; simp at this
        | some q =>
          have e := HAT.out
          rw [at_of_some] at e
          injection e with e
          injection e with e1 e2
          subst e1 e2
          exact FirstCut.stay HH.out)
      clear HH HAT HNx HBN hg1 hg2 hg3 HGN
      go_wp2_with fail
      go_meet
      exact HR.out
    | true =>
      obtain ⟨op, hcs⟩ : ∃ op, a.next = none ∧ a.todo = op :: l ∧ p = op.first := by
        obtain ⟨td, nx, gt⟩ := a
        cases nx with
        | some q => have := HBN.out; simp at this
        | none =>
          have e := HAT.out
          cases td with
          | nil => simp [St.Ac.at] at e
          | cons op td => simp [St.Ac.at] at e; exact ⟨op, rfl, by rw [e.2], e.1.symm⟩
      obtain ⟨hnx, htd, hpf⟩ := hcs
      obtain ⟨T, f, xv, nv', HO⟩ := opF_any op
      obtain ⟨pf, fi, rfl⟩ := HO.form
      have c0 := HH.out.blk.cell _ _ HH.out.c0
      have z0 := HH.out.blk.fz o
      have z1 := HH.out.blk.fz (o + 1)
      obtain ⟨pp, cap, e, hl1, hl2, h3⟩ := HH.out.todo
      rw [htd] at e hl1 h3
      obtain ⟨g, off, rfl, hga, hgb, hgc⟩ := h3 0 op rfl
      rw [e] at c0
      obtain ⟨n, hn⟩ : ∃ n, n = l.length := ⟨_, rfl⟩
      have c0' : w.cell? ⟨ab, o, none⟩ = some (.slice (some ⟨g, off, none⟩) (n + 1) cap) := by rw [hn]; exact c0
      have hl1' : n + 1 ≤ cap := by rw [hn]; exact hl1
      have HT : Hid (TodoAt w A (.slice (some ⟨g, if cap = 1 then off else off + 1, none⟩) n (cap - 1)) l) := Lib.hid (by
        refine ⟨_, _, by rw [hn], by rw [← hn]; omega, by omega, fun i x hx => ?_⟩
        have hi := (List.getElem?_eq_some_iff.1 hx).1
        obtain ⟨g', off', e', a1, a2, a3⟩ := h3 (i + 1) x (by simpa using hx)
        cases e'
        refine ⟨g, _, rfl, a1, a2, ?_⟩
        rw [if_neg (by omega), show off + 1 + i = off + (i + 1) by omega]
        exact a3)
      unfold maxLen at hl2
      rw [Nat.add_zero, HO.val] at hgc
      have F1 : Hid (∀ W, Below w.heap.size w W → Calls Try.prog f #[xv] W (fun e w' => e = .returned (.func (.func pf) fi #[]) ∧ Below w.heap.size w w')) := Lib.hid fun W hW => (HO.call W).mono fun e w' ⟨h1, h2⟩ => ⟨h1, hW.trans (h2.mono hW.size)⟩
      have B0 : Hid (Below w.heap.size w w) := Lib.hid (Below.refl _ _)
      have KS : Hid (∀ W, Below w.heap.size w W → W.cell? ⟨ab, o, none⟩ = some (.slice (some ⟨g, off, none⟩) (n + 1) cap) ∧ W.cell? ⟨ab, o + 1, none⟩ = some nv ∧ W.cell? ⟨g, off, none⟩ = some (.iface T xv) ∧ W.frozen? ⟨ab, o, none⟩ = false ∧ W.frozen? ⟨ab, o + 1, none⟩ = false) := Lib.hid fun W hW => ⟨cell_of hW c0', cell_of hW c1, cell_of hW hgc, (HH.out.blk.below hW hlt).fz _, (HH.out.blk.below hW hlt).fz _⟩
      have nab : ab ≠ g := fun e => (HH.out.apart g hga).2.2.1 e.symm
      have HM := HO.meth
      have heg := HO.ent
      have HR : Hid (∀ w2 wx, Below w.heap.size w w2 → (wx = (w2.setCell ⟨ab, o + 1, none⟩ (.func (.func pf) fi #[])).setCell ⟨ab, o, none⟩ (.slice (some ⟨g, if cap = 1 then off else off + 1, none⟩) n (cap - 1)) ∨ wx = (w2.setCell ⟨ab, o, none⟩ (.slice (some ⟨g, if cap = 1 then off else off + 1, none⟩) n (cap - 1))).setCell ⟨ab, o + 1, none⟩ (.func (.func pf) fi #[])) → FirstCut w A ab o cs p l wx) := Lib.hid fun w2 wx hb hx => by
        rw [hpf]
        exact cut_make2 HH.out hb hx HO.ph HT.out
      have s1 : (1 : Int) ≤ ((n + 1 : Nat) : Int) := by omega
      have s2 : ((n + 1 : Nat) : Int) ≤ (cap : Int) := by omega
      have s3 : (1 : Int) ≤ (n : Int) + 1 := by omega
      have s4 : (n : Int) + 1 ≤ (cap : Int) := by omega
      clear h3 e c0 hl1 hn HO HH HAT HNx HBN hg1 hg2 hg3 HGN hnx htd hpf HT
      have hcc : cap = 1 ∨ (1 < cap ∧ ¬ cap = 1 ∧ ¬ cap - 1 = 0 ∧ ¬ cap ≤ 1 ∧ 0 < cap - 1) := by omega
      rcases hcc with hcc | ⟨k1, k2, k3, k4, k5⟩
      · obtain rfl : n = 0 := by omega
        subst hcc
        simp only [if_true] at HR
        go_wp2_with fail
        go_region_with ((refine (F1.out _ (by repeat (first | exact B0.out | (with_reducible refine bDr ?_) | (with_reducible refine bAl ?_ _)))).mono ?_; rintro e w2 ⟨rfl, hb2⟩; have HB2 := Lib.hid hb2; obtain ⟨y1, y2, y3, y4, y5⟩ := KS.out _ hb2; have hl2 := Nat.lt_of_lt_of_le hlt hb2.size; clear hb2))
        all_goals (go_wp2_with fail; go_meet)
        all_goals (first | exact HR.out _ _ HB2.out (.inl rfl) | exact HR.out _ _ HB2.out (.inr rfl))
      · rw [if_neg k2] at HR
        go_wp2_with fail
        go_region_with ((refine (F1.out _ (by repeat (first | exact B0.out | (with_reducible refine bDr ?_) | (with_reducible refine bAl ?_ _)))).mono ?_; rintro e w2 ⟨rfl, hb2⟩; have HB2 := Lib.hid hb2; obtain ⟨y1, y2, y3, y4, y5⟩ := KS.out _ hb2; have hl2 := Nat.lt_of_lt_of_le hlt hb2.size; clear hb2))
        all_goals (go_wp2_with fail; go_meet)
        all_goals (first | exact HR.out _ _ HB2.out (.inl rfl) | exact HR.out _ _ HB2.out (.inr rfl))
  case rest =>
    obtain ⟨tv1, nv1, hT1, hP1, hB1, hF1⟩ := hcut
    have hDx := HD.out.fr hF1 (fun e => HH.out.n1 e.symm) (fun e => HH.out.n2 e.symm)
    obtain ⟨f, fi, ca, rfl, heg, hC⟩ := ph_any hP1 hDx HOK.out HA.out
    have hlo1 : o + 1 < cs.length := (List.getElem?_eq_some_iff.1 HH.out.c1).1
    have c1 : wc.cell? ⟨ab, o + 1, none⟩ = some (.func (.func f) fi ca) := hB1.cell (o + 1) _ (by rw [List.getElem?_set_self (by simpa using hlo1)])
    have hlx := hB1.lt
    have HC := Lib.hid hC
    have HT1 := Lib.hid hT1; have HB1 := Lib.hid hB1; have HF1 := Lib.hid hF1
    unfold phPost at HC
    have KA : Hid (∀ W, Fr (fun k => k = rb ∨ k = cb) wc W → ab < W.heap.size ∧ (∃ u, W.cell? ⟨ab, o + 1, none⟩ = some u) ∧ W.frozen? ⟨ab, o + 1, none⟩ = false ∧ W.cell? ⟨ab, o + 2, none⟩ = some gv ∧ W.frozen? ⟨ab, o + 2, none⟩ = false) := Lib.hid fun W hF => by
      have hb := hB1.fr hF (fun e => by rcases e with e | e; exact HH.out.n1 e; exact HH.out.n2 e)
      exact ⟨hb.lt, ⟨_, hb.cell (o + 1) _ (by rw [List.getElem?_set_self (by simpa using hlo1)])⟩, hb.fz _, hb.cell (o + 2) _ (by rw [List.getElem?_set_ne (by omega), List.getElem?_set_ne (by omega)]; exact HH.out.c2), hb.fz _⟩
    clear hT1 hP1 hB1 hF1 hDx hC
    rw [show fi ++ #[ptr rb] ++ ca = fi.push (ptr rb) ++ ca by simp] at HC
    generalize p.run d = r at *
    obtain ⟨d2, nx2, y⟩ := r
    clear HN0 HN1 HNx HOK HBN ID c1
    have c1 : wc.cell? ⟨ab, o + 1, none⟩ = some (.func (.func f) fi ca) := (HB1.out.cell (o + 1) _ (by rw [List.getElem?_set_self (by simpa using hlo1)]))
    go_wp2_with fail
    refine HC.out.mono ?_
    rintro e w2 ⟨nv2, rfl, hD2, hP2, hF2⟩
    obtain ⟨k1, ⟨u, k2⟩, k3, k4, k5⟩ := KA.out _ hF2
    have HD2 := Lib.hid hD2; have HF2 := Lib.hid hF2
    cases nx2 with
    | some q =>
      have HP2 := Lib.hid hP2
      obtain ⟨f2, fi2, ca2, rfl⟩ := hP2.fn
      have HR := Lib.hid (HQ.out _ _ _ HT1.out HB1.out HF1.out _ _ HD2.out HP2.out HF2.out rfl)
      have HN2 := run_fn_nil
      clear hD2 hP2 hF2 HC HQ HE
      go_wp2
      exact HR.out
    | none =>
      have e2 : nv2 = .nilFunc := hP2
      subst e2
      have HN2 := run_nil_nil
      have HR := Lib.hid (HE.out _ _ _ HT1.out HB1.out HF1.out _ HD2.out HF2.out rfl)
      have hgot2 : (w2.setCell ⟨ab, o + 1, none⟩ .nilFunc).ownsRow 0 3 1 gv a.got.length (ints a.got) := by
        have hF3 : Fr (fun k => k = rb ∨ k = cb ∨ k = ab) w (w2.setCell ⟨ab, o + 1, none⟩ .nilFunc) := (HF1.out.up (S' := fun k => k = rb ∨ k = cb ∨ k = ab) fun x e => .inr (.inr e)).trans ((HF2.out.up fun x e => by rcases e with e | e; exact .inl e; exact .inr (.inl e)).trans ((frA w2 ab (o + 1) .nilFunc).up fun x e => .inr (.inr e)))
        exact owns_fr HH.out.got hF3 (fun k e hs => by rcases hs with rfl | rfl | rfl; exact HH.out.g1 e; exact HH.out.g2 e; exact HH.out.g3 e)
      have HG2 := Lib.hid hgot2
      have hg3 : some ab ≠ gv.ownBlock := fun e => HH.out.g3 e.symm
      have HG3 := Lib.hid hg3
      rw [eg] at HR HG2 HG3 k4
      rw [← HGN.out] at HR HG2 k4 HG3 hg1 hgl
      have t1 : gn + 1 ≤ maxLen := by omega
      have ezs : (w2.setCell ⟨ab, o + 1, none⟩ .nilFunc).heap.size = w2.heap.size := by simp [World.setCell]
      have hcn := cell_one_new (w2.setCell ⟨ab, o + 1, none⟩ .nilFunc) (.int .i64 y) 3
      rw [ezs] at hcn
      clear hD2 hP2 hF2 HC HQ HE hgot2 hg3 eg HN2
      have HN2 := run_nil_nil
      go_wp2_with (at_builtin; refine wpList_append_own_at _ (by rfl) (.tmp 51) (.tmp 53) 22 (by rfl) 0 3 i0 (.int .i64 0) 1 8 Try.underlying22 HI.out HZ0.out HZ1.out HZ2.out (by rfl) (by decide) (.slice gp gn gc) gn _ (by rfl) (HG2.out.alloc _) ⟨w2.heap.size, 0, none⟩ 1 1 [.int .i64 y] (by rfl) (by rfl) hcn (by simp [Value.oneCell']) t1 (by omega) (by simp) ?_)
      intro v5 w5 hown5 hG5 _ hat5
      have HG5 := Lib.hid (HR.out _ _ _ hG5 hown5 (by simpa using hat5))
      obtain ⟨g5, cp5, rfl⟩ := ownsRow_succ hown5
      have hBB : some ab ≠ (Value.slice gp gn gc).ownBlock := HG3.out
      have hc5 : w5.cell? ⟨ab, o + 2, none⟩ = some (.slice gp gn gc) := (World.cell?_of_block (a := ⟨ab, o + 2, none⟩) (hG5.block ab (by simp [World.setCell]; omega) hBB)).trans ((World.cell?_alloc_past _ _ _ (by simpa [World.setCell] using k1)).trans ((World.cell?_setCell_other _ _ _ _ (fun e => by injection e with _ e2 _; omega)).trans k4))
      have hz5 : w5.frozen? ⟨ab, o + 2, none⟩ = false := (World.frozen?_of_block (a := ⟨ab, o + 2, none⟩) (hG5.block ab (by simp [World.setCell]; omega) hBB)).trans ((World.frozen?_of_block (a := ⟨ab, o + 2, none⟩) (Below.heap_alloc _ _ _ (by simpa [World.setCell] using k1))).trans (by rw [World.frozen?_setCell]; exact k5))
      have hl5 : ab < w5.heap.size := by have := hG5.size; simp [World.setCell] at this; omega
      clear hown5 hG5 hat5 k1 k2 k3 k4 k5 HR HG2 HG3
      go_wp2
      exact HG5.out
end
end Go.Proofs.Ytajccigefoddiaa
