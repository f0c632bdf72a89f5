/- What Shield and Unveil do. -/
import Derived.Test.YtcegmdlmnibheaaLim
namespace Go.Proofs.Ytcegmdlmnibheaa
set_option linter.unusedVariables false
set_option linter.unusedSimpArgs false
open Go.RowKit
section
variable {w : World} {own : Own} {tb : Nat} {L : Lay} {t : Tr.T}
set_option maxRecDepth 100000 in
set_option maxHeartbeats 4000000 in
theorem shield_any (h : Rep w own tb L t) (hl : Lim t) (n : Int) : Calls Try.prog 26 #[ptr tb, .int .i64 n] w (goneI w own tb (Tr.shield t n)) := by
  unfold goneI Tr.shield
  by_cases hac : Tr.ac t n ≠ 0
  · rw [if_pos hac]
    have A := Lib.hid (acting_no h hac)
    have HG := Lib.hid h.gone
    unfold same at A
    have hne : (Tr.ac t n != 0) = true := by simpa using hac
    generalize Tr.ac t n = c at *
    clear h hl hac
    go_enter Try.func26, Try.ntmps26
    go_wp2_with fail
    refine A.out.mono ?_
    rintro e w2 ⟨rfl, rfl⟩
    go_wp2
    go_ret
    exact ⟨rfl, HG.out⟩
  · rw [if_neg hac]
    obtain ⟨i, x, rfl, hx, hd, hv, htk⟩ := ac_zero hac
    simp only [htk, to_i]
    have A := Lib.hid (acting_ok h hx hd hv)
    have B := Lib.hid (shields_any h hx)
    unfold same tkP at A B
    by_cases h40 : 40 ≤ Tr.shields x
    · rw [if_pos h40]
      have h40' : (40 : Int) ≤ (Tr.shields x : Int) := by omega
      have HG := Lib.hid h.gone
      generalize Tr.shields x = c at *
      clear h hl hac hx hd hv htk
      go_enter Try.func26, Try.ntmps26
      go_wp2_with fail
      refine A.out.mono ?_
      rintro e w2 ⟨rfl, rfl⟩
      go_wp2_with fail
      refine B.out.mono ?_
      rintro e w2 ⟨rfl, rfl⟩
      go_wp2
      go_ret
      exact ⟨rfl, HG.out⟩
    · rw [if_neg h40]
      have h40' : ¬ ((40 : Int) ≤ (Tr.shields x : Int)) := by omega
      have hK := h.tk i x hx
      obtain ⟨p, cap, e, h1, h2, -⟩ := hK.form
      have c5 := hK.blk.cell 5 _ rfl
      have z5 := hK.blk.fz 5
      have hlt := hK.blk.lt
      rw [e] at c5
      have hrow := hK.row
      rw [e] at hrow
      have HROW := Lib.hid hrow
      have hop := hl.op hx
      have hml : (2000000 : Nat) ≤ maxLen := by decide
      have hns : some (L.tk i) ≠ (Value.slice p x.op.length cap).ownBlock := fun e' => by
        rw [← e] at e'
        have h1 := hK.lown _ e'.symm
        rw [hK.mine] at h1
        simp at h1
      have HNS := Lib.hid hns
      have HB := Lib.hid hK.blk
      have HLR : Hid (∀ (o : Obj) (w5 : World) (v : Value), (w.alloc o).grownBy w5 (Value.slice p x.op.length cap).ownBlock → w5.ownsRow 0 104 1 v (x.op.length + 1) (x.op.map (scP L) ++ [.pointer none]) →
        (v.ownBlock = (Value.slice p x.op.length cap).ownBlock ∨ v.ownBlock = some (w.heap.size + 1)) → Gone w own tb (Tr.setT t i { x with op := x.op ++ [none] }) (w5.setCell ⟨L.tk i, 5, none⟩ v)) := Lib.hid fun o w5 v hG hr ha => by
        have := link_rep h hx (s := none) (by simp) (o := o) (w5 := w5) (v := v) (by rw [e]; exact hG) hr (by rw [e]; exact ha)
        exact this.2.gone this.1
      obtain ⟨i0, hi, hz0, hz1, hz2⟩ := info_parts info104
      have HI := Lib.hid hi; have HZ0 := Lib.hid hz0; have HZ1 := Lib.hid hz1; have HZ2 := Lib.hid hz2
      obtain ⟨l, hll⟩ : ∃ l, l = x.op.length := ⟨_, rfl⟩
      rw [← hll] at c5 HROW hop HNS HLR h1
      have t1 : l + 1 ≤ maxLen := by omega
      generalize Tr.shields x = c at *
      clear h hl hac hx hd hv htk hK e hrow hns hi hz0 hz1 hz2 hll h2
      go_enter Try.func26, Try.ntmps26
      go_wp2_with fail
      refine A.out.mono ?_
      rintro e w2 ⟨rfl, rfl⟩
      go_wp2_with fail
      refine B.out.mono ?_
      rintro e w2 ⟨rfl, rfl⟩
      go_wp2_with (at_builtin; refine wpList_append_own_at _ (by rfl) (.tmp 25) (.tmp 26) 86 (by rfl) 0 104 i0 (.pointer none) 1 8 Try.underlying86 HI.out HZ0.out HZ1.out HZ2.out (by rfl) (by decide) (.slice p l cap) l _ (by rfl) (HROW.out.alloc _) ⟨w.heap.size, 0, none⟩ 1 1 [.pointer none] (by rfl) (by rfl) (cell_one_new _ _ _) (by simp [Value.oneCell']) t1 (by omega) (by simp) ?_)
      intro v5 w5 hown5 hG5 _ hat5
      have HA := Lib.hid (HLR.out _ _ _ hG5 hown5 (by simpa using hat5))
      obtain ⟨p5, cp5, e5, h51, h52, -⟩ := owns_form hown5
      subst e5
      have hz5 : w5.frozen? ⟨L.tk i, 5, none⟩ = false := (World.frozen?_of_block (a := ⟨L.tk i, 5, none⟩) (hG5.block _ (by simp; omega) HNS.out)).trans ((HB.out.alloc _).fz 5)
      have hc5 : w5.cell? ⟨L.tk i, 5, none⟩ = some (.slice p l cap) := (World.cell?_of_block (a := ⟨L.tk i, 5, none⟩) (hG5.block _ (by simp; omega) HNS.out)).trans ((World.cell?_alloc_past _ _ _ hlt).trans c5)
      have hl5 : L.tk i < w5.heap.size := by have := hG5.size; simp at this; omega
      clear hown5 hG5 hat5 t1 c5 z5
      go_wp2
      go_ret
      exact ⟨rfl, HA.out⟩
set_option maxRecDepth 100000 in
set_option maxHeartbeats 4000000 in
theorem unveil_any (h : Rep w own tb L t) (n : Int) : Calls Try.prog 27 #[ptr tb, .int .i64 n] w (goneI w own tb (Tr.unveil t n)) := by
  unfold goneI Tr.unveil
  by_cases hac : Tr.ac t n ≠ 0
  · rw [if_pos hac]
    have A := Lib.hid (acting_no h hac)
    have HG := Lib.hid h.gone
    unfold same at A
    have hne : (Tr.ac t n != 0) = true := by simpa using hac
    generalize Tr.ac t n = c at *
    clear h hac
    go_enter Try.func27, Try.ntmps27
    go_wp2_with fail
    refine A.out.mono ?_
    rintro e w2 ⟨rfl, rfl⟩
    go_wp2
    go_ret
    exact ⟨rfl, HG.out⟩
  · rw [if_neg hac]
    obtain ⟨i, x, rfl, hx, hd, hv, htk⟩ := ac_zero hac
    simp only [htk, to_i]
    have A := Lib.hid (acting_ok h hx hd hv)
    have B := Lib.hid (inner_any h hx)
    unfold same at A
    unfold tkP at A B
    have HG : Hid (∀ n, Gone w own tb t (w.drewN n)) := Lib.hid fun n => h.goneB (drewN_below w n)
    cases ho : x.op.getLast? with
    | none =>
      rw [ho] at B
      rw [if_neg (by simp)]
      simp only [Option.getD_none, Option.isSome_none] at B
      unfold scP at B
      clear h hac hx hd hv htk ho
      go_enter Try.func27, Try.ntmps27
      go_wp2_with fail
      refine A.out.mono ?_
      rintro e w2 ⟨rfl, rfl⟩
      go_wp2_with fail
      refine B.out.mono ?_
      rintro e w2 ⟨rfl, n, rfl⟩
      go_wp2
      go_ret
      exact ⟨rfl, HG.out n⟩
    | some s =>
      rw [ho] at B
      simp only [Option.getD_some, Option.isSome_some] at B
      unfold scP at B
      cases s with
      | some j =>
        rw [if_neg (by simp)]
        clear h hac hx hd hv htk ho
        go_enter Try.func27, Try.ntmps27
        go_wp2_with fail
        refine A.out.mono ?_
        rintro e w2 ⟨rfl, rfl⟩
        go_wp2_with fail
        refine B.out.mono ?_
        rintro e w2 ⟨rfl, n, rfl⟩
        go_wp2
        go_ret
        exact ⟨rfl, HG.out n⟩
      | none =>
        rw [if_pos rfl]
        have hne : x.op ≠ [] := fun e => by rw [e] at ho; cases ho
        have HU : Hid (∀ n, Calls Try.prog 71 #[tkP L i] (w.drewN n) fun e w' => e = .returned (.tuple #[]) ∧ Gone w own tb (Tr.setT t i (Tr.unlink x)) w') := Lib.hid fun n => (unlink_any (h.drewN n) hx hne).mono fun e w' ⟨he, v, hR, hF⟩ =>
          ⟨he, own, _, hR, fun _ _ => rfl, (Fr.of_below (drewN_below w n)).thenL hF fun k hk => .inl (by rw [hk, (h.tk i x hx).mine]; simp)⟩
        unfold tkP at HU
        clear h hac hx hd hv htk ho hne
        go_enter Try.func27, Try.ntmps27
        go_wp2_with fail
        refine A.out.mono ?_
        rintro e w2 ⟨rfl, rfl⟩
        go_wp2_with fail
        refine B.out.mono ?_
        rintro e w2 ⟨rfl, n, rfl⟩
        go_wp2_with fail
        refine (HU.out n).mono ?_
        rintro e w3 ⟨rfl, hG⟩
        have HG3 := Lib.hid hG
        clear hG
        go_wp2
        go_ret
        exact ⟨rfl, HG3.out⟩
end
end Go.Proofs.Ytcegmdlmnibheaa
