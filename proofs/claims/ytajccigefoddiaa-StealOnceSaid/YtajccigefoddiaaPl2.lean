/- A step of a race that is played. -/
import Derived.Deep.RegionLaw
import Derived.Test.YtajccigefoddiaaPl
namespace Go.Proofs.Ytajccigefoddiaa
set_option linter.unusedVariables false
set_option linter.unusedSimpArgs false
open Go.RowKit Go.Shelf
theorem info45 : (Try.prog.info? 45).map (fun i => (i.zero, i.size, i.bytes)) = some (some (.agg #[.int .i64 0, .int .i64 0]), 2, 16) := by kernel_rfl
theorem cells_new2 (w : World) (a b : Value) (t : TypeId) : ∀ j u, [a, b][j]? = some u → (w.alloc (.cells #[a, b] t)).cell? ((⟨w.heap.size, 0, none⟩ : Addr).add j) = some u := by
  intro j u hj
  rw [add_off, Nat.zero_add]
  exact (Blk.new w #[a, b] t).cell j u hj
theorem getD_range {f : Nat → Value} {a : Nat} (ha : a < 9) : ((List.range 9).map f)[a]? = some (f a) := by simp [ha]
section
variable {w wr W : World} {own : Own} {rb cb ab cap : Nat} {t : St.T} {log : List (Nat × Int)} {hd : Nat → Nat} {b1 b6 b7 hb : Nat} {ov : Value}
def plPost (w : World) (rb cb ab cap : Nat) (s : St.T × List (Nat × Int)) (x : Int) (b1 b6 b7 hb : Nat) (W : World) : Prop :=
  ∃ own hd ov, Pl w W own rb cb ab cap (lgStep s x).1 (lgStep s x).2 hd b1 b6 b7 hb ov ∧ ∀ a : Nat, a < 9 → hd a = ((lgStep s x).1.gotOf (a : Int)).length
theorem gotOf_other {t : St.T} {x : Int} {a : Nat} (h : (a : Int) ≠ x) : (t.step x).1.gotOf (a : Int) = t.gotOf (a : Int) := by
  rcases step_cases t x with ⟨e, _⟩ | ⟨i, b, p, l, rfl, hb, hat, e⟩
  · rw [e]
  · rw [e]
    unfold St.T.gotOf
    rw [if_neg (by omega), if_neg (by omega)]
    simp only
    rw [List.getElem?_set_ne (by omega)]
theorem gotOf_len {t : St.T} {S : List Int} (h : St.RInv t S) (x : Int) : (t.gotOf x).length ≤ 100 := by
  unfold St.T.gotOf
  split
  · simp
  · split
    · simp
    · rename_i a ha
      have := h.gl _ a ha
      omega
theorem gotOf_grow (t : St.T) (x : Int) : (t.gotOf x).length ≤ ((t.step x).1.gotOf x).length := by
  rcases step_cases t x with ⟨e, _⟩ | ⟨i, b, p, l, rfl, hb, hat, e⟩
  · rw [e]; exact Nat.le_refl _
  · rw [e]
    unfold St.T.gotOf
    rw [if_neg (by omega), if_neg (by omega), show (i : Int).toNat = i by omega, hb]
    simp only
    rw [List.getElem?_set_self (List.getElem?_eq_some_iff.1 hb).1]
    simp only [St.Ac.after]
    split <;> simp
theorem pl_form {w5 : World} (h : Pl w wr own rb cb ab cap t log hd b1 b6 b7 hb ov) {o : Obj} {ov' : Value} {e : Nat × Int} {ll : Nat} (hll : ll = log.length) (hrow : w5.ownsRow w.heap.size 45 2 ov' (ll + 1) (log.flatMap enL ++ enL e)) (hG : (wr.alloc o).grownBy w5 ov.ownBlock)
    (hat : ov'.ownBlock = ov.ownBlock ∨ ov'.ownBlock = some (wr.alloc o).heap.size) :
    ∃ g cp, ov' = .slice (some ⟨g, 0, none⟩) (ll + 1) cp ∧ w5.cell? ⟨b6, 0, none⟩ = some ov ∧ w5.frozen? ⟨b6, 0, none⟩ = false ∧ b6 < w5.heap.size ∧ Hid (∃ own', Pl w (w5.setCell ⟨b6, 0, none⟩ ov') own' rb cb ab cap t (log ++ [e]) hd b1 b6 b7 hb ov') := by
  subst hll
  obtain ⟨g, cp, e1⟩ := ownsRow_succ hrow
  have h5 := (h.k6.alloc o).grown hG (fun e => (h.oo _ e.symm).2.2.1 rfl)
  exact ⟨g, cp, e1, h5.cell 0 _ rfl, h5.fz 0, h5.lt, Lib.hid (h.grow hG hrow hat)⟩
set_option maxRecDepth 100000 in
set_option maxHeartbeats 4000000 in
theorem step49_any (h : Pl w wr own rb cb ab cap t log hd b1 b6 b7 hb ov) (hh : ∀ a : Nat, a < 9 → hd a = (t.gotOf (a : Int)).length) (hlog : log.length ≤ 100000) (x : Int) :
    Calls Try.prog 49 #[.int .i64 x, ptr b1, ptr b7, ptr b6] wr fun e w' => e = .returned (.tuple #[]) ∧ plPost w rb cb ab cap (t, log) x b1 b6 b7 hb w' := by
  have C := Lib.hid (h.rn.stepC x)
  have k1 := h.k1.cell 0 _ rfl
  have hl1 := h.k1.lt
  have HP := Lib.hid h
  have HG : Hid (∀ W, Gone wr own rb cb ab cap (t.step x).1 W → ∃ own', Pl w W own' rb cb ab cap (t.step x).1 log hd b1 b6 b7 hb ov) := Lib.hid fun W hG => h.gone x hG
  have HHD := Lib.hid hh
  unfold stepPostR at C
  by_cases hx : 0 ≤ x ∧ x ≤ 8
  · obtain ⟨a, rfl⟩ : ∃ a : Nat, x = (a : Int) := ⟨x.toNat, by omega⟩
    have ha9 : a < 9 := by omega
    have HEQ : Hid (lgStep (t, log) (a : Int) = if (t.gotOf (a : Int)).length < ((t.step (a : Int)).1.gotOf (a : Int)).length then ((t.step (a : Int)).1, log ++ [(a, ((t.step (a : Int)).1.gotOf (a : Int)).getD (((t.step (a : Int)).1.gotOf (a : Int)).length - 1) 0)]) else ((t.step (a : Int)).1, log)) := Lib.hid (by
      unfold lgStep
      by_cases hc : (t.gotOf (a : Int)).length < ((t.step (a : Int)).1.gotOf (a : Int)).length
      · rw [if_pos hc, if_pos ⟨by omega, by omega, hc⟩]; simp
      · rw [if_neg hc, if_neg (fun h => hc h.2.2)])
    have HOTH : Hid (∀ j : Nat, j ≠ a → (t.step (a : Int)).1.gotOf (j : Int) = t.gotOf (j : Int)) := Lib.hid fun j hj => gotOf_other (by omega)
    have HGR := Lib.hid (gotOf_grow t (a : Int))
    have HD0 : Hid (hd a = (t.gotOf (a : Int)).length) := Lib.hid (hh a ha9)
    have d1 : decide ((a : Int) > 8) = false := by simp; omega
    have d2 : decide ((a : Int) < 0) = false := by simp
    obtain ⟨t', ht'⟩ : ∃ t', t' = (t.step (a : Int)).1 := ⟨_, rfl⟩
    rw [← ht'] at HG HEQ HOTH HGR
    have HTT := Lib.hid ht'
    clear h hh hx ht'
    obtain ⟨i0, hi, hz0, hz1, hz2⟩ := info_parts info45
    have HI := Lib.hid hi; have HZ0 := Lib.hid hz0; have HZ1 := Lib.hid hz1; have HZ2 := Lib.hid hz2
    clear hi hz0 hz1 hz2
    have hml : (2000000 : Nat) ≤ maxLen := by decide
    go_enter Try.func49, Try.ntmps49
    go_wp2_with fail
    refine C.out.mono ?_
    rintro e w2 ⟨rfl, hG⟩
    rw [← HTT.out] at hG
    obtain ⟨own2, hP2⟩ := HG.out _ hG
    have HP2 := Lib.hid hP2
    have q1 := hP2.k1.cell 0 _ rfl
    have ql1 := hP2.k1.lt
    have GC := Lib.hid (hP2.rn.gotC (a : Int))
    have HS2 : Hid ((t'.gotOf (a : Int)).length ≤ 100) := Lib.hid (by obtain ⟨S, hS⟩ := hP2.rn.inv; exact gotOf_len hS _)
    unfold numsPost at GC
    obtain ⟨gl, hgl⟩ : ∃ gl, gl = t'.gotOf (a : Int) := ⟨_, rfl⟩
    have HGL := Lib.hid hgl
    rw [← hgl] at GC HS2 HEQ HGR
    obtain ⟨n, hn⟩ : ∃ n, n = gl.length := ⟨_, rfl⟩
    have HN := Lib.hid hn
    rw [← hn] at GC HS2 HEQ HGR
    have hn100 := HS2.out
    clear hG hP2 C HG HP hgl hn k1 hl1
    go_wp2_with fail
    refine GC.out.mono ?_
    rintro e w3 ⟨p, cp, rfl, g1, g2, g3, g4⟩
    have HP3 := Lib.hid (HP2.out.below g4)
    have q7 := HP3.out.k7.cell 0 _ rfl
    have ql7 := HP3.out.k7.lt
    have qh := HP3.out.kh.cell a _ (getD_range ha9)
    have zh := HP3.out.kh.fz a
    have qlh := HP3.out.kh.lt
    have q6 := HP3.out.k6.cell 0 _ rfl
    have z6 := HP3.out.k6.fz 0
    have ql6 := HP3.out.k6.lt
    have HNA : Hid (NumsAt w3 p gl) := Lib.hid (by rw [HN.out] at g3; exact nums_at g3)
    have j1 : (a : Int) < 9 := by omega
    have j2 : (0 : Int) ≤ (a : Int) := by omega
    clear g3 g4 GC HP2 q1 ql1
    by_cases hc : hd a < n
    · have HE2 : Hid (lgStep (t, log) (a : Int) = (t', log ++ [(a, gl.getD (n - 1) 0)])) := Lib.hid (by rw [HEQ.out, if_pos (by rw [← HD0.out]; exact hc)])
      obtain ⟨g, off, rfl, hg, hcell⟩ := HNA.out (by have := HN.out; omega)
      have cl := hcell (n - 1) (by have := HN.out; omega)
      have e1 : IntKind.i64.wrap ((n : Int) - 1) = ((n - 1 : Nat) : Int) := by rw [IntWalk.i64_in _ (by omega)]; omega
      have j3 : ((n - 1 : Nat) : Int) < (n : Int) := by omega
      have j4 : (0 : Int) ≤ ((n - 1 : Nat) : Int) := by omega
      have j5 : (hd a : Int) < (n : Int) := by omega
      obtain ⟨op, oc, rfl⟩ := slice_form HP3.out.row
      obtain ⟨ll, hll⟩ : ∃ ll, ll = log.length := ⟨_, rfl⟩
      have HLL := Lib.hid hll
      have HROW := Lib.hid HP3.out.row
      rw [← hll] at q6 HROW hlog HP3
      generalize n - 1 = n1 at *
      generalize gl.getD n1 0 = y at *
      clear hcell hll
      go_wp2_with fail
      go_region_law (first
        | (refine wp_append_at _ _ _ 42 (by rfl) w.heap.size 45 i0 (.agg #[.int .i64 0, .int .i64 0]) 2 16 Try.underlying42 HI.out HZ0.out HZ1.out HZ2.out (by rfl) (by decide) (.slice op ll oc) ll (log.flatMap enL) (by rfl) (by exact HROW.out.alloc _) ⟨w3.heap.size, 0, none⟩ 1 1 [natV a, .int .i64 y] (by rfl) (by rfl) (by exact cells_new2 _ _ _ _) (by simp [Value.oneCell']) (by omega) (by omega) (by have := HP3.out.rn.ow.bel.size; simp; omega) ?_; intro v6 w6 hown6 hG6 hat6; obtain ⟨g6, cp6, rfl, f1, f2, f3, HP6⟩ := pl_form (e := (a, y)) (HP3.out.below (below_drewN (Below.refl _ _) 1)) HLL.out hown6 hG6 hat6; clear hown6 hG6 hat6))
      all_goals obtain ⟨own6, hP6⟩ := HP6.out
      all_goals have r7 := hP6.k7.cell 0 _ rfl
      all_goals have rl7 := hP6.k7.lt
      all_goals have rh := hP6.kh.cell a _ (getD_range ha9)
      all_goals have rz := hP6.kh.fz a
      all_goals have rlh := hP6.kh.lt
      all_goals have HR := Lib.hid (hP6.had ha9 n)
      all_goals clear hP6 HP6
      all_goals go_wp2
      all_goals refine bodyPost_end (results_none rfl _ _ _) rfl ?_
      all_goals refine ⟨rfl, ?_⟩
      all_goals unfold plPost
      all_goals rw [HE2.out]
      all_goals refine ⟨own6, _, _, HR.out, fun j hj => ?_⟩
      all_goals by_cases hja : j = a
      all_goals first | (rw [if_pos hja, hja, ← HGL.out]; exact HN.out) | (rw [if_neg hja, HHD.out j hj]; exact (congrArg List.length (HOTH.out j hja)).symm)
    · have HE2 : Hid (lgStep (t, log) (a : Int) = (t', log)) := Lib.hid (by rw [HEQ.out, if_neg (by rw [← HD0.out]; exact hc)])
      have HR : Hid (plPost w rb cb ab cap (t, log) (a : Int) b1 b6 b7 hb w3) := Lib.hid (by
        unfold plPost
        rw [HE2.out]
        refine ⟨own2, hd, ov, HP3.out, fun j hj => ?_⟩
        by_cases hja : j = a
        · subst hja
          have := HGR.out
          have h2 := HD0.out
          show hd j = (t'.gotOf (j : Int)).length
          rw [← HGL.out, ← HN.out]; omega
        · rw [HHD.out j hj]; exact (congrArg List.length (HOTH.out j hja)).symm)
      have j5 : decide ((hd a : Int) < (n : Int)) = false := by simp; omega
      have j6 : decide ((n : Int) > (hd a : Int)) = false := by simp; omega
      clear HP3 HNA
      go_wp2
      go_end0
      exact ⟨rfl, HR.out⟩
  · have HEQ : Hid (lgStep (t, log) x = ((t.step x).1, log)) := Lib.hid (by unfold lgStep; rw [if_neg (fun h => hx ⟨h.1, h.2.1⟩)])
    have HF : Hid (∀ W own', Pl w W own' rb cb ab cap (t.step x).1 log hd b1 b6 b7 hb ov → plPost w rb cb ab cap (t, log) x b1 b6 b7 hb W) := Lib.hid fun W own' hP => by
      unfold plPost
      rw [HEQ.out]
      exact ⟨own', hd, ov, hP, fun a ha => by rw [hh a ha, gotOf_other (by omega)]⟩
    have hd1 : x < 0 ∨ (decide (x < 0) = false ∧ 8 < x) := by
      by_cases h0 : x < 0
      · exact .inl h0
      · exact .inr ⟨by simpa using h0, by omega⟩
    clear h hh hx HEQ
    rcases hd1 with hd1 | ⟨hd1, hd2⟩
    · go_enter Try.func49, Try.ntmps49
      go_wp2_with fail
      refine C.out.mono ?_
      rintro e w2 ⟨rfl, hG⟩
      obtain ⟨own2, hP2⟩ := HG.out _ hG
      have HR := Lib.hid (HF.out _ _ hP2)
      clear hG hP2 C HG
      go_wp2
      refine bodyPost_ret (results_none rfl _ _ _) rfl ?_
      exact ⟨rfl, HR.out⟩
    · go_enter Try.func49, Try.ntmps49
      go_wp2_with fail
      refine C.out.mono ?_
      rintro e w2 ⟨rfl, hG⟩
      obtain ⟨own2, hP2⟩ := HG.out _ hG
      have HR := Lib.hid (HF.out _ _ hP2)
      clear hG hP2 C HG
      go_wp2
      refine bodyPost_ret (results_none rfl _ _ _) rfl ?_
      exact ⟨rfl, HR.out⟩
end
end Go.Proofs.Ytajccigefoddiaa
