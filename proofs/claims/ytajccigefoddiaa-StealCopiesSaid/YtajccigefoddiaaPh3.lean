/- The last steps of a take, and those of thieves. -/
import Derived.Test.YtajccigefoddiaaPh2
namespace Go.Proofs.Ytajccigefoddiaa
set_option linter.unusedVariables false
set_option linter.unusedSimpArgs false
open Go.RowKit
section
variable {W W' w : World} {rb cb : Nat} {av : Value} {d : St.Dq} {A : Nat → Prop}
theorem cst_new {a : Nat} {v : Value} (hs : w.heap.size ≤ a) (hl : a < W'.heap.size) (hc : W'.cell? ⟨a, 0, none⟩ = some v) : Cst W' (fun k => A k ∨ w.heap.size ≤ k) a v := ⟨.inr hs, hl, hc⟩
set_option maxRecDepth 100000 in
theorem aim_any (h : Dr w rb cb av d) : Calls Try.prog 120 #[ptr rb] w (phPost w rb cb av A (St.Ph.run d .aim)) := by
  have c1 := h.blk.cell 1 _ rfl
  have hlt := h.blk.lt
  have HD := Lib.hid h
  unfold phPost St.Ph.run
  clear h
  go_enter Try.func120, Try.ntmps120
  go_wp2
  go_ret2
  exact ⟨_, rfl, HD.out.below (one _ _), ⟨_, rfl, cst_new (Nat.le_refl _) (by simp) ((Blk.new w _ _).cell 0 _ rfl)⟩, Fr.of_below (one _ _)⟩
set_option maxRecDepth 100000 in
theorem reach_any (t : Nat) : Calls Try.prog 122 #[natV t] w fun e w' => e = .returned (.func (.func 123) #[] #[ptr w.heap.size]) ∧ w' = w.alloc (.cells #[natV t] 3) := by
  go_enter Try.func122, Try.ntmps122
  go_wp2
  go_ret
  exact ⟨rfl, rfl⟩
set_option maxRecDepth 100000 in
theorem bound_any (h : Dr w rb cb av d) (t : Nat) (ht : t ≤ 100000) {a : Nat} (hc : Cst w A a (natV t)) : Calls Try.prog 121 #[ptr rb, ptr a] w (phPost w rb cb av A (St.Ph.run d (.bound t))) := by
  have c2 := h.blk.cell 2 _ rfl
  have hlt := h.blk.lt
  have k0 := hc.cell
  have ka := hc.lt
  have HD := Lib.hid h
  have RC : Hid (∀ W, Calls Try.prog 122 #[natV t] W fun e w' => e = .returned (.func (.func 123) #[] #[ptr W.heap.size]) ∧ w' = W.alloc (.cells #[natV t] 3)) := Lib.hid fun W => reach_any t
  unfold phPost
  by_cases hf : d.bottom ≤ t
  · have e : St.Ph.run d (.bound t) = (d, none, 0) := by simp [St.Ph.run, hf]
    rw [e]
    clear h hc e
    go_enter Try.func121, Try.ntmps121
    go_wp2_with fail
    go_quiet (fail)
    go_wp2
    go_ret2
    exact ⟨_, rfl, HD.out.below (below_drewN (Below.refl _ _) _), rfl, Fr.of_below (below_drewN (Below.refl _ _) _)⟩
  · have e : St.Ph.run d (.bound t) = (d, some (.reach t), 0) := by simp [St.Ph.run, hf]
    rw [e]
    clear h hc e
    go_enter Try.func121, Try.ntmps121
    go_wp2_with fail
    go_quiet (fail)
    go_wp2_with fail
    refine (RC.out _).mono ?_
    rintro e w2 ⟨rfl, rfl⟩
    go_wp2
    go_ret2
    have hb : ∀ n, Below w.heap.size w ((w.drewN n).alloc (.cells #[natV t] 3)) := fun n => (below_drewN (Below.refl _ _) n).alloc (Nat.le_refl _) _
    exact ⟨_, rfl, HD.out.below (hb _), ⟨_, rfl, cst_new (Nat.le_refl _) (by simp) ((Blk.new (w.drewN _) _ _).cell 0 _ rfl)⟩, Fr.of_below (hb _)⟩
set_option maxRecDepth 100000 in
theorem reach1_any (h : Dr w rb cb av d) (t : Nat) (ht : t ≤ 100000) {a : Nat} (hc : Cst w A a (natV t)) (hA : ∀ k, A k → k ≠ rb ∧ k ≠ cb) : Calls Try.prog 123 #[ptr rb, ptr a] w (phPost w rb cb av A (St.Ph.run d (.reach t))) := by
  have hlt := h.blk.lt
  have k0 := hc.cell
  have ka := hc.lt
  have HD := Lib.hid h
  have HC := Lib.hid hc
  have C := Lib.hid (cell_any h t (by omega))
  have KC : Hid (∀ W, Below w.heap.size w W → W.cell? ⟨cb, d.place t, none⟩ = some (.int .i64 (d.cell t))) := Lib.hid fun W hW => dr_pos HD.out hW t
  have hclt := h.cel.lt
  unfold phPost St.Ph.run
  unfold still at C
  dsimp only
  generalize d.place t = m at *
  generalize d.cell t = y at *
  clear h hc
  go_enter Try.func123, Try.ntmps123
  go_wp2_with fail
  refine C.out.mono ?_
  rintro e w2 ⟨rfl, hb2⟩
  have HB2 := Lib.hid hb2
  have y1 := KC.out _ hb2
  have hc2 := Nat.lt_of_lt_of_le hclt hb2.size
  have hz2 := hb2.size
  clear hb2 C
  go_wp2
  go_ret2
  have hb : ∀ o, Below w.heap.size w (w2.alloc o) := fun o => HB2.out.alloc hz2 o
  refine ⟨_, rfl, HD.out.below (hb _), ⟨_, _, rfl, ?_, cst_new hz2 (by simp) ((Blk.new w2 _ _).cell 0 _ rfl)⟩, Fr.of_below (hb _)⟩
  exact HC.out.fr (Fr.of_below (S := none_) (hb _)) (fun k hk _ => ⟨.inl hk, fun h => h⟩)
set_option maxRecDepth 100000 in
set_option maxHeartbeats 1000000 in
theorem claim2_any (h : Dr w rb cb av d) (t : Nat) (x : Int) (ht : t ≤ 100000) (hd : d.top = t → d.top < 100000) {a b : Nat} (hc : Cst w A a (natV t)) (hx : Cst w A b (.int .i64 x)) (hA : ∀ k, A k → k ≠ rb ∧ k ≠ cb) : Calls Try.prog 124 #[ptr rb, ptr a, ptr b] w (phPost w rb cb av A (St.Ph.run d (.claim t x))) := by
  have hlt := h.blk.lt
  have k0 := hc.cell
  have ka := hc.lt
  have kb := hx.lt
  have nb := (hA b hx.ok).1
  have HX := Lib.hid hx
  have C := Lib.hid (claim_any h t ht hd)
  have KX : Hid (∀ W, Fr (fun k => k = rb) w W → W.cell? ⟨b, 0, none⟩ = some (.int .i64 x)) := Lib.hid fun W hF => (hF.cell (p := ⟨b, 0, none⟩) hx.lt nb).trans hx.cell
  unfold phPost
  by_cases hf : d.top = t
  · have e : St.Ph.run d (.claim t x) = ({ d with top := t + 1 }, none, x) := by simp [St.Ph.run, hf]
    rw [e]
    rw [if_pos hf, show decide (d.top = t) = true by simp [hf]] at C
    clear h hc hx hd e hf
    go_enter Try.func124, Try.ntmps124
    go_wp2_with fail
    refine C.out.mono ?_
    rintro e w2 ⟨rfl, hD, hF⟩
    have y1 := KX.out _ hF
    have y2 := Nat.lt_of_lt_of_le kb hF.size
    have HD2 := Lib.hid hD
    have HF2 := Lib.hid hF
    clear hD hF C
    go_wp2_with fail
    go_quiet (fail)
    go_wp2
    go_ret2
    exact ⟨_, rfl, HD2.out.below (below_drewN (Below.refl _ _) _), rfl, ((HF2.out.widen fun k hk _ => .inl hk)).drewN _⟩
  · have e : St.Ph.run d (.claim t x) = (d, none, -1) := by simp [St.Ph.run, hf]
    rw [e]
    rw [if_neg hf, show decide (d.top = t) = false by simp [hf]] at C
    clear h hc hx hd e hf
    go_enter Try.func124, Try.ntmps124
    go_wp2_with fail
    refine C.out.mono ?_
    rintro e w2 ⟨rfl, hD, hF⟩
    have HD2 := Lib.hid hD
    have HF2 := Lib.hid hF
    clear hD hF C
    go_wp2
    go_ret2
    exact ⟨_, rfl, HD2.out, rfl, HF2.out.widen fun k hk _ => .inl hk⟩
set_option maxRecDepth 100000 in
set_option maxHeartbeats 1000000 in
theorem last_any (h : Dr w rb cb av d) (t : Nat) (x : Int) (ht : t < 100000) {a b : Nat} (hc : Cst w A a (natV t)) (hx : Cst w A b (.int .i64 x)) (hA : ∀ k, A k → k ≠ rb ∧ k ≠ cb) : Calls Try.prog 114 #[ptr rb, ptr a, ptr b] w (phPost w rb cb av A (St.Ph.run d (.last t x))) := by
  have hlt := h.blk.lt
  have k0 := hc.cell
  have ka := hc.lt
  have kb := hx.lt
  have nb := (hA b hx.ok).1
  have na := (hA a hc.ok).1
  have C := Lib.hid (claim_any h t (by omega) (fun e => by omega))
  have KX : Hid (∀ W, Fr (fun k => k = rb) w W → W.cell? ⟨b, 0, none⟩ = some (.int .i64 x)) := Lib.hid fun W hF => (hF.cell (p := ⟨b, 0, none⟩) hx.lt nb).trans hx.cell
  have KA : Hid (∀ W, Fr (fun k => k = rb) w W → W.cell? ⟨a, 0, none⟩ = some (natV t)) := Lib.hid fun W hF => (hF.cell (p := ⟨a, 0, none⟩) hc.lt na).trans hc.cell
  have e1 : IntKind.i64.wrap ((t : Int) + 1) = (t : Int) + 1 := by rw [IntWalk.i64_in _ (by omega)]
  have ht1 : (-1 : Int) ≤ (t : Int) + 1 := by omega
  have ht2 : (t : Int) + 1 ≤ 100000 := by omega
  unfold phPost
  by_cases hf : d.top = t
  · have e : St.Ph.run d (.last t x) = ({ d with top := t + 1, bottom := (t : Int) + 1 }, none, x) := by simp [St.Ph.run, hf]
    rw [e]
    rw [if_pos hf, show decide (d.top = t) = true by simp [hf]] at C
    clear h hc hx e hf
    go_enter Try.func114, Try.ntmps114
    go_wp2_with fail
    refine C.out.mono ?_
    rintro e w2 ⟨rfl, hD, hF⟩
    have y0 := KA.out _ hF
    have y1 := KX.out _ hF
    have y2 := Nat.lt_of_lt_of_le kb hF.size
    have y3 := Nat.lt_of_lt_of_le ka hF.size
    have y4 := hD.blk.cell 2 _ rfl
    have y5 := hD.blk.fz 2
    have y6 := hD.blk.lt
    have HD2 := Lib.hid (hD.setBot ((t : Int) + 1) ht1 ht2)
    have HF2 := Lib.hid (((hF.set (b := rb) (.inl rfl) 2 (.int .i64 ((t : Int) + 1)))).widen (S' := fun k => k = rb ∨ k = cb) fun k hk _ => .inl hk)
    clear hD hF C
    go_wp2_with fail
    go_quiet (fail)
    go_wp2
    go_ret2
    exact ⟨_, rfl, HD2.out.below (below_drewN (Below.refl _ _) _), rfl, HF2.out.drewN _⟩
  · have e : St.Ph.run d (.last t x) = ({ d with bottom := (t : Int) + 1 }, none, 0) := by simp [St.Ph.run, hf]
    rw [e]
    rw [if_neg hf, show decide (d.top = t) = false by simp [hf]] at C
    clear h hc hx e hf
    go_enter Try.func114, Try.ntmps114
    go_wp2_with fail
    refine C.out.mono ?_
    rintro e w2 ⟨rfl, hD, hF⟩
    have y0 := KA.out _ hF
    have y3 := Nat.lt_of_lt_of_le ka hF.size
    have y4 := hD.blk.cell 2 _ rfl
    have y5 := hD.blk.fz 2
    have y6 := hD.blk.lt
    have HD2 := Lib.hid (hD.setBot ((t : Int) + 1) ht1 ht2)
    have HF2 := Lib.hid (((hF.set (b := rb) (.inl rfl) 2 (.int .i64 ((t : Int) + 1)))).widen (S' := fun k => k = rb ∨ k = cb) fun k hk _ => .inl hk)
    clear hD hF C
    go_wp2
    go_ret2
    exact ⟨_, rfl, HD2.out, rfl, HF2.out⟩
end
end Go.Proofs.Ytajccigefoddiaa
