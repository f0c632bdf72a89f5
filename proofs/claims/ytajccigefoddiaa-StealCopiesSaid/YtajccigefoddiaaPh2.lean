/- The steps of the owner that take, and those of thieves. -/
import Derived.Test.YtajccigefoddiaaPh1
namespace Go.Proofs.Ytajccigefoddiaa
set_option linter.unusedVariables false
set_option linter.unusedSimpArgs false
open Go.RowKit
section
variable {W W' w : World} {rb cb : Nat} {av : Value} {d : St.Dq} {A : Nat → Prop}
theorem Dr.cellv (h : Dr w rb cb av d) (p : Nat) : w.cell? ⟨cb, d.place p, none⟩ = some (.int .i64 (d.cell p)) := h.cel.cell (d.place p) _ (ints_get (Nat.mod_lt _ h.n0))
theorem dr_pos (h : Dr w rb cb av d) (hw : Below w.heap.size w W) (p : Nat) : W.cell? ⟨cb, d.place p, none⟩ = some (.int .i64 (d.cell p)) := cell_of hw (h.cellv p)
set_option maxRecDepth 100000 in
theorem claim_any (h : Dr w rb cb av d) (t : Nat) (ht : t ≤ 100000) (hd : d.top = t → d.top < 100000) : Calls Try.prog 109 #[ptr rb, natV t] w fun e w' => e = .returned (.bool (decide (d.top = t))) ∧ Dr w' rb cb av (if d.top = t then { d with top := t + 1 } else d) ∧ Fr (fun k => k = rb) w w' := by
  have c1 := h.blk.cell 1 _ rfl
  have z1 := h.blk.fz 1
  have hlt := h.blk.lt
  have HD := Lib.hid h
  by_cases he : d.top = t
  · rw [if_pos he]
    have HR := Lib.hid (h.setTop (t + 1) (by have := hd he; omega))
    have HF : Hid (Fr (fun k => k = rb) w (w.setCell ⟨rb, 1, none⟩ (natV (t + 1)))) := Lib.hid ((Fr.refl (fun k => k = rb) w).set (.inl rfl) 1 _)
    have e1 : IntKind.i64.wrap ((t : Int) + 1) = ((t + 1 : Nat) : Int) := by rw [IntWalk.i64_in _ (by omega)]; omega
    rw [he] at c1
    have e3 : decide (d.top = t) = true := by simp [he]
    rw [e3]
    clear h hd he e3
    go_enter Try.func109, Try.ntmps109
    go_wp2
    go_ret
    exact ⟨rfl, HR.out, HF.out⟩
  · rw [if_neg he]
    have j1 : ((d.top : Int) != (t : Int)) = true := by simp; omega
    have e3 : decide (d.top = t) = false := by simp [he]
    rw [e3]
    clear h hd he e3
    go_enter Try.func109, Try.ntmps109
    go_wp2
    go_ret
    exact ⟨rfl, HD.out, Fr.refl _ _⟩
set_option maxRecDepth 100000 in
set_option maxHeartbeats 1000000 in
theorem compare_any (h : Dr w rb cb av d) : Calls Try.prog 112 #[ptr rb] w (phPost w rb cb av A (St.Ph.run d .compare)) := by
  have c1 := h.blk.cell 1 _ rfl
  have c2 := h.blk.cell 2 _ rfl
  have z2 := h.blk.fz 2
  have hlt := h.blk.lt
  have hb2 := h.bot2
  have ht := h.top
  have HD := Lib.hid h
  by_cases hf : d.bottom < d.top
  · have e : St.Ph.run d .compare = ({ d with bottom := d.top }, none, 0) := by simp [St.Ph.run, hf]
    rw [e]
    have HR := Lib.hid (h.setBot (d.top : Int) (by omega) (by omega))
    unfold phPost
    clear h e
    go_enter Try.func112, Try.ntmps112
    go_wp2
    go_ret2
    exact ⟨_, rfl, HR.out, rfl, frRB (.inl rfl)⟩
  · by_cases hg : (d.top : Int) < d.bottom
    · have e : St.Ph.run d .compare = (d, none, d.cell d.bottom.toNat) := by simp [St.Ph.run, hf, hg]
      rw [e]
      obtain ⟨b, hbb⟩ : ∃ b : Nat, d.bottom = b := ⟨d.bottom.toNat, by omega⟩
      rw [hbb] at c2 hf hg ⊢
      rw [show ((b : Int)).toNat = b by omega]
      have C : Hid (∀ W, Below w.heap.size w W → Calls Try.prog 50 #[ptr rb, natV b] W (still W (.pointer (some ⟨cb, d.place b, none⟩)))) := Lib.hid fun W hW => cell_any (HD.out.below hW) b (by omega)
      have B1 : Hid (Below w.heap.size w w.drew) := Lib.hid (below_drewN (Below.refl _ _) 1)
      have KC : Hid (∀ W, Below w.heap.size w W → W.cell? ⟨cb, d.place b, none⟩ = some (.int .i64 (d.cell b))) := Lib.hid fun W hW => dr_pos HD.out hW b
      have hclt := h.cel.lt
      unfold phPost
      unfold still at C
      generalize d.place b = m at *
      generalize d.cell b = y at *
      clear h e hbb
      go_enter Try.func112, Try.ntmps112
      go_wp2_with fail
      go_region_held3 (fun W' => W'.cell? ⟨rb, 2, none⟩ = some (natV b) ∧ W'.cell? ⟨cb, m, none⟩ = some (.int .i64 y))
        (first | exact ⟨c2, KC.out _ B1.out⟩ | exact ⟨cell_of HB2.out c2, KC.out _ HB2.out⟩ | go_keep)
        ((go_at_call 50; refine (C.out _ B1.out).mono ?_; rintro e w2 ⟨rfl, hb⟩; have hb2 := B1.out.trans (hb.mono B1.out.size); have HB2 := Lib.hid hb2; have y1 := KC.out _ hb2; have hc2 := Nat.lt_of_lt_of_le hclt hb2.size; clear hb hb2))
      all_goals (go_wp2)
      all_goals (go_ret2)
      all_goals exact ⟨_, rfl, HD.out.below HB2.out, rfl, Fr.of_below HB2.out⟩
    · have e : St.Ph.run d .compare = (d, some .readLast, 0) := by simp [St.Ph.run, hf, hg]
      rw [e]
      unfold phPost
      clear h e
      go_enter Try.func112, Try.ntmps112
      go_wp2
      go_ret2
      exact ⟨_, rfl, HD.out, rfl, Fr.refl _ _⟩
end
end Go.Proofs.Ytajccigefoddiaa
