/- A scope is over. -/
import Derived.Test.YtcegmdlmnibheaaFinish
import Derived.StillTailTactics
namespace Go.Proofs.Ytcegmdlmnibheaa
set_option linter.unusedVariables false
set_option linter.unusedSimpArgs false
open Go.RowKit

section
variable {w : World} {own : Own} {tb : Nat} {L : Lay} {t : Tr.T}
def finYes (w : World) (own : Own) (tb : Nat) (t : Tr.T) (es : List Tr.E) (e : Ending) (w' : World) : Prop :=
  ∃ L' g cap, e = .returned (.slice (some ⟨g, 0, none⟩) 1 cap) ∧ Rep w' own tb L' t ∧ Fr (fun k => own k ≠ none) w w' ∧ w'.ownsRow w.heap.size 76 5 (.slice (some ⟨g, 0, none⟩) 1 cap) 1 (es.flatMap efC)

theorem effs_one (w : World) (e : Tr.E) {n : Nat} (h : n ≤ w.heap.size) : (w.alloc (.cells #[.int .i64 e.k, .int .i64 e.n, .int .i64 e.m, .int .i64 e.f.k, .string e.f.s] 76)).ownsRow n 76 5 (.slice (some ⟨w.heap.size, 0, none⟩) 1 1) 1 ([e].flatMap efC) :=
  ⟨by simp [efC], .inr ⟨w.heap.size, 1, _, rfl, h, heap_alloc_new w _, Nat.le_refl _, by decide, rfl, by simp [efC]⟩⟩
theorem setT_set (t : Tr.T) (i : Nat) (x x' : Tr.Tk) : Tr.setT (Tr.setT t i x) i x' = Tr.setT t i x' := by simp [Tr.setT]

set_option maxRecDepth 100000 in
set_option maxHeartbeats 8000000 in
theorem finish_yes (h : Rep w own tb L t) {j : Nat} {y : Tr.Sc} {x : Tr.Tk} (hy : t.ss[j]? = some y) (hx : t.ts[y.own]? = some x) (hl20 : y.tks.length ≤ 1000000) (hn : Tr.ends t j x y = true) :
    Calls Try.prog 59 #[scP L (some j)] w (finYes w own tb (Tr.over t y.own j x y) [Tr.eLeft y.own j (Tr.lastF y x)]) := by
  unfold finYes
  have A := Lib.hid (inner_any h hx)
  have hjl : j < t.ss.length := (List.getElem?_eq_some_iff.1 hy).1
  have c4 := (h.sc j y hy).blk.cell 4 _ rfl
  have c6 := (h.tk _ x hx).blk.cell 6 _ rfl
  have hlt := (h.sc j y hy).blk.lt
  have hlt2 := (h.tk _ x hx).blk.lt
  have hnst := h.sc_tk hjl (h.rng.own j y hy)
  unfold Tr.ends at hn
  simp only [Bool.and_eq_true, decide_eq_true_eq, Bool.not_eq_true'] at hn
  obtain ⟨⟨hl, ho⟩, hb⟩ := hn
  have HR := Lib.hid h
  have HY := Lib.hid hy
  have HX := Lib.hid hx
  have hsame := neq_same
  have HOP : Hid (x.op ≠ []) := Lib.hid fun e => by rw [e] at ho; cases ho
  unfold tkP at c4 A
  unfold scP
  rw [hl] at c6
  rw [ho] at A
  unfold scP at A
  simp only [Option.getD_some, Option.isSome_some] at A
  have HBZ : Hid (∀ n, Calls Try.prog 61 #[ptr (L.sc j)] (w.drewN n) (still (w.drewN n) (.bool false))) := Lib.hid fun n => by have := busy_any (h.drewN n) hy hl20; rw [hb] at this; exact this
  unfold still at HBZ
  clear h hy hx hl ho hb
  have hcase : (y.flt.k = 0 ∧ Tr.lastF y x = x.left) ∨ ((y.flt.k == 0) = false ∧ Tr.lastF y x = y.flt) := by
    by_cases h0 : y.flt.k = 0
    · exact .inl ⟨h0, by simp [Tr.lastF, h0]⟩
    · exact .inr ⟨by simpa using h0, by simp [Tr.lastF, h0]⟩
  rcases hcase with ⟨h0, eL⟩ | ⟨h0, eL⟩ <;> rw [eL] <;> clear eL
  all_goals
    go_enter Try.func59, Try.ntmps59
    go_wp2_with fail
    refine A.out.mono ?_
    rintro e w2 ⟨rfl, n, rfl⟩
    go_wp2_with fail
    refine (HBZ.out n).mono ?_
    rintro e w3 ⟨rfl, hb3⟩
    have HB3 := Lib.hid ((drewN_below w n).trans hb3)
    have R3 : Rep w3 own tb L t := HR.out.below HB3.out
    have HR3 := Lib.hid R3
    have d1 := (R3.sc j y HY.out).blk.cell 1 _ rfl
    have d2 := (R3.sc j y HY.out).blk.cell 2 _ rfl
    have d3 := (R3.sc j y HY.out).blk.cell 3 _ rfl
    have z1 := (R3.sc j y HY.out).blk.fz 1
    have k7 := (R3.tk _ x HX.out).blk.cell 7 _ rfl
    have k8 := (R3.tk _ x HX.out).blk.cell 8 _ rfl
    have l1 := (R3.sc j y HY.out).blk.lt
    have l2 := (R3.tk _ x HX.out).blk.lt
    have HT1 : Hid (Rep (w3.setCell ⟨L.sc j, 1, none⟩ (.bool true)) own tb L (Tr.setS t j { y with done := true })) := Lib.hid (R3.turnS HY.out (Fr.set (Fr.refl (fun k => k = L.sc j) w3) (.inl rfl) _ _) ((R3.sc j y HY.out).blk.set (o := 1) (by simp [scC]) _) rfl rfl)
    have HU : Hid (∀ o, Calls Try.prog 71 #[tkP L y.own] ((w3.setCell ⟨L.sc j, 1, none⟩ (.bool true)).alloc o) fun e w' => e = .returned (.tuple #[]) ∧ ∃ v, Rep w' own tb (L.setOv y.own v) (Tr.setT (Tr.setS t j { y with done := true }) y.own (Tr.unlink x)) ∧ Fr (fun k => k = L.tk y.own) ((w3.setCell ⟨L.sc j, 1, none⟩ (.bool true)).alloc o) w') := Lib.hid fun o => unlink_any (HT1.out.below (one _ _)) HX.out HOP.out
    unfold tkP at HU
    -- what stands behind the removal of the link
    have HE : Hid (∀ (o : Obj) (v : Value) (w' : World), Rep w' own tb (L.setOv y.own v) (Tr.setT (Tr.setS t j { y with done := true }) y.own (Tr.unlink x)) → Fr (fun k => k = L.tk y.own) ((w3.setCell ⟨L.sc j, 1, none⟩ (.bool true)).alloc o) w' →
        Rep (((w'.setCell ⟨L.tk y.own, 6, none⟩ (.bool false)).setCell ⟨L.tk y.own, 7, none⟩ (.int .i64 0)).setCell ⟨L.tk y.own, 8, none⟩ (.string ⟨#[]⟩)) own tb (L.setOv y.own v) (Tr.over t y.own j x y) ∧
        Fr (fun k => own k ≠ none) w (((w'.setCell ⟨L.tk y.own, 6, none⟩ (.bool false)).setCell ⟨L.tk y.own, 7, none⟩ (.int .i64 0)).setCell ⟨L.tk y.own, 8, none⟩ (.string ⟨#[]⟩))) := Lib.hid fun o v w' hR hF => by
      have hi : y.own < t.ts.length := HR.out.rng.own j y HY.out
      have hx2 : (Tr.setT (Tr.setS t j { y with done := true }) y.own (Tr.unlink x)).ts[y.own]? = some (Tr.unlink x) := by
        simp [Tr.setT, Tr.setS, hi]
      have hB := (hR.tk _ _ hx2).blk
      have mine1 := (HR.out.tk _ _ HX.out).mine
      have mine2 := (HR.out.sc _ _ HY.out).mine
      refine ⟨?_, ?_⟩
      · have := hR.turnT (x' := { x with op := x.op.dropLast, leav := false, left := Tr.f0 }) hx2 (Fr.set (Fr.set (Fr.set (Fr.refl (fun k => k = L.tk y.own) w') (.inl rfl) 6 (.bool false)) (.inl rfl) 7 (.int .i64 0)) (.inl rfl) 8 (.string ⟨#[]⟩))
          (((hB.set (o := 6) (by simp [tkC]) _).set (o := 7) (by simp [tkC]) _).set (o := 8) (by simp [tkC]) _) rfl rfl
        rw [setT_set] at this
        exact this
      · have h1 : Fr (fun k => own k ≠ none) w (w3.setCell ⟨L.sc j, 1, none⟩ (.bool true)) := Fr.set (Fr.of_below HB3.out) (.inl (by rw [mine2]; simp)) _ _
        have h2 : Fr (fun k => own k ≠ none) w w' := (h1.alloc o).thenL hF fun k hk => .inl (by rw [hk, mine1]; simp)
        exact Fr.set (Fr.set (Fr.set h2 (.inl (by rw [mine1]; simp)) _ _) (.inl (by rw [mine1]; simp)) _ _) (.inl (by rw [mine1]; simp)) _ _
    clear R3 hb3
    go_wp2_with fail
    refine (HU.out _).mono ?_
    rintro e w6 ⟨rfl, v, hR6, hF6⟩
    have HR6 := Lib.hid hR6
    have HF6 := Lib.hid hF6
    have hx2 : (Tr.setT (Tr.setS t j { y with done := true }) y.own (Tr.unlink x)).ts[y.own]? = some (Tr.unlink x) := by
      have hi : y.own < t.ts.length := HR.out.rng.own j y HY.out
      simp [Tr.setT, Tr.setS, hi]
    have m0 : w6.cell? ⟨L.tk y.own, 0, none⟩ = some (.int .i64 ((y.own : Int) + 1)) := (hR6.tk _ _ hx2).blk.cell 0 _ rfl
    have m6 : w6.cell? ⟨L.tk y.own, 6, none⟩ = some (.bool x.leav) := (hR6.tk _ _ hx2).blk.cell 6 _ rfl
    have m7 : w6.cell? ⟨L.tk y.own, 7, none⟩ = some (.int .i64 x.left.k) := (hR6.tk _ _ hx2).blk.cell 7 _ rfl
    have m8 : w6.cell? ⟨L.tk y.own, 8, none⟩ = some (.string x.left.s) := (hR6.tk _ _ hx2).blk.cell 8 _ rfl
    have y6 : w6.frozen? ⟨L.tk y.own, 6, none⟩ = false := (hR6.tk _ _ hx2).blk.fz 6
    have y7 : w6.frozen? ⟨L.tk y.own, 7, none⟩ = false := (hR6.tk _ _ hx2).blk.fz 7
    have y8 : w6.frozen? ⟨L.tk y.own, 8, none⟩ = false := (hR6.tk _ _ hx2).blk.fz 8
    have l6 : L.tk y.own < w6.heap.size := (hR6.tk _ _ hx2).blk.lt
    have hs6 := hF6.size
    rw [World.size_alloc, show (w3.setCell ⟨L.sc j, 1, none⟩ (.bool true)).heap.size = w3.heap.size by simp [World.setCell]] at hs6
    have hsy : (Tr.setT (Tr.setS t j { y with done := true }) y.own (Tr.unlink x)).ss[j]? = some { y with done := true } := by
      simp [Tr.setT, Tr.setS, hjl]
    have n0 : w6.cell? ⟨L.sc j, 0, none⟩ = some (.int .i64 ((j : Int) + 1)) := (hR6.sc _ _ hsy).blk.cell 0 _ rfl
    have l7 : L.sc j < w6.heap.size := (hR6.sc _ _ hsy).blk.lt
    have hbx : ∀ (k : Int) (s : ByteArray), Fr (fun k => k = L.tk y.own) ((w3.setCell ⟨L.sc j, 1, none⟩ (.bool true)).alloc (.cells #[.int .i64 k, .string s] 37)) w6 → Blk w6 w3.heap.size [.int .i64 k, .string s] := fun k s hF => by
      have h1 := Blk.new (w3.setCell ⟨L.sc j, 1, none⟩ (.bool true)) #[.int .i64 k, .string s] 37
      rw [show (w3.setCell ⟨L.sc j, 1, none⟩ (.bool true)).heap.size = w3.heap.size by simp [World.setCell]] at h1
      exact h1.fr hF (fun e => by omega)
    have hb6 := hbx _ _ hF6
    have b0 := hb6.cell 0 _ rfl
    have b1 := hb6.cell 1 _ rfl
    have lb := hb6.lt
    have ne1 : w3.heap.size ≠ L.tk y.own := by omega
    clear hbx hR6 hF6
    go_wp2_with fail
    have HE7 := Lib.hid (HE.out _ _ _ HR6.out HF6.out)
    have q0 := World.cell?_setCell_other w6
    obtain ⟨w7, hw7⟩ : ∃ w7, w7 = ((w6.setCell ⟨L.tk y.own, 6, none⟩ (.bool false)).setCell ⟨L.tk y.own, 7, none⟩ (.int .i64 0)).setCell ⟨L.tk y.own, 8, none⟩ (.string ⟨#[]⟩) := ⟨_, rfl⟩
    rw [← hw7] at HE7
    rw [← hw7]
    have e0 : w7.cell? ⟨L.tk y.own, 0, none⟩ = some (.int .i64 ((y.own : Int) + 1)) := by
      rw [hw7, World.cell?_setCell_other _ _ _ _ (by simp), World.cell?_setCell_other _ _ _ _ (by simp), World.cell?_setCell_other _ _ _ _ (by simp)]; exact m0
    have e1 : w7.cell? ⟨L.sc j, 0, none⟩ = some (.int .i64 ((j : Int) + 1)) := by
      rw [hw7, World.cell?_setCell_other _ _ _ _ (by simp), World.cell?_setCell_other _ _ _ _ (by simp), World.cell?_setCell_other _ _ _ _ (by simp)]; exact n0
    have hb7 := ((hb6.set_other ne1 (o := 6) (.bool false)).set_other ne1 (o := 7) (.int .i64 0)).set_other ne1 (o := 8) (.string ⟨#[]⟩)
    rw [← hw7] at hb7
    have e2 := hb7.cell 0 _ rfl
    have e3 := hb7.cell 1 _ rfl
    have s7 : w7.heap.size = w6.heap.size := by rw [hw7]; simp [World.setCell]
    have hsz7 : w.heap.size ≤ w7.heap.size := by have := HB3.out.size; omega
    clear hb7 hb6 q0 hw7 m0 m6 m7 m8 y6 y7 y8 n0 b0 b1
    go_still_tail 12, (by kernel_rfl)
    change wpList _ _ _ _ _ w7.drew
    clear e0 e1 e2 e3
    have HE8 : Hid (Rep w7.drew own tb (L.setOv y.own v) (Tr.over t y.own j x y) ∧ Fr (fun k => own k ≠ none) w w7.drew) := Lib.hid ⟨HE7.out.1.drew, HE7.out.2.drew⟩
    have s8 : w.heap.size ≤ w7.drew.heap.size := hsz7
    clear HE7
    generalize w7.drew = w8 at *
    go_wp2
    go_ret
    exact ⟨_, _, _, rfl, HE8.out.1.below (one _ _), HE8.out.2.alloc _, effs_one w8 (Tr.eLeft y.own j _) s8⟩
end
end Go.Proofs.Ytcegmdlmnibheaa
