/- The steps of the owner. -/
import Derived.Test.YtajccigefoddiaaMem
namespace Go.Proofs.Ytajccigefoddiaa
set_option linter.unusedVariables false
set_option linter.unusedSimpArgs false
open Go.RowKit
def phPost (w : World) (rb cb : Nat) (av : Value) (A : Nat → Prop) (r : St.Dq × Option St.Ph × Int) (e : Ending) (w' : World) : Prop :=
  ∃ nv, e = .returned (.tuple #[nv, .int .i64 r.2.2]) ∧ Dr w' rb cb av r.1 ∧ PhAt w' (fun k => A k ∨ w.heap.size ≤ k) nv r.2.1 ∧ Fr (fun k => k = rb ∨ k = cb) w w'
section
variable {W W' w : World} {rb cb : Nat} {av : Value} {d : St.Dq} {A : Nat → Prop}
theorem Dr.turn (h : Dr W rb cb av d) {d' : St.Dq} {c : Nat} (hF : Fr (fun k => k = rb) W W') (hB : Blk W' rb [.slice (some ⟨cb, 0, none⟩) d.cells.length c, natV d'.top, .int .i64 d'.bottom, av]) (hc : d'.cells = d.cells) (h1 : d'.top ≤ 100000) (h2 : -1 ≤ d'.bottom) (h3 : d'.bottom ≤ 100000) : Dr W' rb cb av d' :=
  ⟨by rw [hc]; exact hB.recap, by rw [hc]; exact h.cel.fr hF (fun e => h.ne e.symm), h.ne, by rw [hc]; exact h.n0, by rw [hc]; exact h.n16, h1, h2, h3⟩
theorem Dr.setBot (h : Dr W rb cb av d) (b : Int) (h2 : -1 ≤ b) (h3 : b ≤ 100000) : Dr (W.setCell ⟨rb, 2, none⟩ (.int .i64 b)) rb cb av { d with bottom := b } :=
  h.turn ((Fr.refl (fun k => k = rb) W).set (.inl rfl) 2 _) (h.blk.set (o := 2) (by simp) _) rfl h.top h2 h3
theorem Dr.setTop (h : Dr W rb cb av d) (t : Nat) (h2 : t ≤ 100000) : Dr (W.setCell ⟨rb, 1, none⟩ (natV t)) rb cb av { d with top := t } :=
  h.turn ((Fr.refl (fun k => k = rb) W).set (.inl rfl) 1 _) (h.blk.set (o := 1) (by simp) _) rfl h2 h.bot h.bot2
theorem frRB {x : Nat} {o : Nat} {v : Value} (hx : x = rb ∨ x = cb) : Fr (fun k => k = rb ∨ k = cb) W (W.setCell ⟨x, o, none⟩ v) := (Fr.refl _ W).set (.inl hx) o v
set_option maxRecDepth 100000 in
theorem look_any (h : Dr w rb cb av d) (x : Int) : Calls Try.prog 116 #[.int .i64 x, ptr rb] w (phPost w rb cb av A (St.Ph.run d (.look x))) := by
  have c0 := h.blk.cell 0 _ rfl
  have c1 := h.blk.cell 1 _ rfl
  have c2 := h.blk.cell 2 _ rfl
  have hlt := h.blk.lt
  have hn := h.n16
  have ht := h.top
  have hb := h.bot
  have hb2 := h.bot2
  have e1 : IntKind.i64.wrap (d.bottom - (d.top : Int)) = d.bottom - (d.top : Int) := IntWalk.i64_in _ (by omega)
  have HD := Lib.hid h
  unfold phPost
  by_cases hf : d.bottom - d.top = d.cells.length
  · have e : St.Ph.run d (.look x) = (d, none, -1) := by simp [St.Ph.run, hf]
    rw [e]
    have j1 : (d.bottom - (d.top : Int) == (d.cells.length : Int)) = true := by simpa using hf
    clear h hf e
    go_enter Try.func116, Try.ntmps116
    go_wp2_with fail
    go_quiet (fail)
    go_wp2
    go_ret2
    exact ⟨_, rfl, HD.out.below (below_drewN (Below.refl _ _) _), rfl, Fr.of_below (below_drewN (Below.refl _ _) _)⟩
  · have e : St.Ph.run d (.look x) = (d, some (.write x), 0) := by simp [St.Ph.run, hf]
    rw [e]
    have j1 : (d.bottom - (d.top : Int) == (d.cells.length : Int)) = false := by simpa using hf
    clear h hf e
    go_enter Try.func116, Try.ntmps116
    go_wp2_with fail
    go_quiet (fail)
    go_wp2
    go_ret2
    exact ⟨_, rfl, HD.out.below (below_drewN (Below.refl _ _) _), rfl, Fr.of_below (below_drewN (Below.refl _ _) _)⟩
set_option maxRecDepth 100000 in
theorem write_any (h : Dr w rb cb av d) (x : Int) (hp : 0 ≤ d.bottom) : Calls Try.prog 117 #[.int .i64 x, ptr rb] w (phPost w rb cb av A (St.Ph.run d (.write x))) := by
  obtain ⟨b, hbb⟩ : ∃ b : Nat, d.bottom = b := ⟨d.bottom.toNat, by omega⟩
  have c2 := h.blk.cell 2 _ rfl
  have hlt := h.blk.lt
  have hclt := h.cel.lt
  have hb2 := h.bot2
  have hpl : d.place b < d.cells.length := Nat.mod_lt _ h.n0
  have x1 := h.cel.cell (d.place b) _ (ints_get hpl)
  have x2 := h.cel.fz (d.place b)
  have C := Lib.hid (cell_any h b (by omega))
  have HD := Lib.hid h
  have HR : Hid (∀ w', Below w.heap.size w w' → phPost w rb cb av A (St.Ph.run d (.write x)) (.returned (.tuple #[.func (.func 118) #[.int .i64 x] #[], .int .i64 0])) (w'.setCell ⟨cb, d.place b, none⟩ (.int .i64 x))) := Lib.hid fun w' hw => by
    have hD := HD.out.below hw
    have e : St.Ph.run d (.write x) = ({ d with cells := d.cells.set (d.place b) x }, some (.raise x), 0) := by
      simp only [St.Ph.run]; rw [show d.bottom.toNat = b by omega]
    rw [e]
    refine ⟨_, rfl, ⟨?_, ?_, h.ne, by simpa using h.n0, by simpa using h.n16, h.top, h.bot, h.bot2⟩, rfl, ((Fr.of_below hw).set (.inl (.inr rfl)) _ _)⟩
    · rw [show (d.cells.set (d.place b) x).length = d.cells.length by simp]
      exact (hD.blk.set_other h.ne _).recap
    · have := hD.cel.set (o := d.place b) (by simpa [ints] using hpl) (.int .i64 x)
      have e2 : (ints d.cells).set (d.place b) (.int .i64 x) = ints (d.cells.set (d.place b) x) := by unfold ints; rw [List.map_set]
      rwa [e2] at this
  have KS : Hid (∀ w', Below w.heap.size w w' → w'.cell? ⟨cb, d.place b, none⟩ = some (.int .i64 (d.cells.getD (d.place b) 0)) ∧ w'.frozen? ⟨cb, d.place b, none⟩ = false) := Lib.hid fun w' hw => ⟨cell_of hw x1, ((HD.out.below hw).cel).fz _⟩
  unfold still at C
  rw [hbb] at c2
  clear h x1 x2 hpl hbb hp
  generalize phPost w rb cb av A (St.Ph.run d (.write x)) = Q at *
  generalize d.place b = m at *
  go_enter Try.func117, Try.ntmps117
  go_wp2_with fail
  refine C.out.mono ?_
  rintro e w2 ⟨rfl, hw2⟩
  obtain ⟨y1, y2⟩ := KS.out _ hw2
  have HW := Lib.hid hw2
  have hc2 := Nat.lt_of_lt_of_le hclt hw2.size
  clear hw2 C
  go_wp2
  exact HR.out _ HW.out
set_option maxRecDepth 100000 in
theorem raise_any (h : Dr w rb cb av d) (x : Int) (hp : d.bottom < 100000) : Calls Try.prog 118 #[.int .i64 x, ptr rb] w (phPost w rb cb av A (St.Ph.run d (.raise x))) := by
  have c2 := h.blk.cell 2 _ rfl
  have z2 := h.blk.fz 2
  have hlt := h.blk.lt
  have hb := h.bot
  have e1 : IntKind.i64.wrap (d.bottom + 1) = d.bottom + 1 := IntWalk.i64_in _ (by omega)
  have HR := Lib.hid (h.setBot (d.bottom + 1) (by omega) (by omega))
  unfold phPost St.Ph.run
  clear h
  go_enter Try.func118, Try.ntmps118
  go_wp2
  go_ret2
  exact ⟨_, rfl, HR.out, rfl, frRB (.inl rfl)⟩
set_option maxRecDepth 100000 in
theorem lower_any (h : Dr w rb cb av d) (hp : 0 ≤ d.bottom) : Calls Try.prog 111 #[ptr rb] w (phPost w rb cb av A (St.Ph.run d .lower)) := by
  have c2 := h.blk.cell 2 _ rfl
  have z2 := h.blk.fz 2
  have hlt := h.blk.lt
  have hb2 := h.bot2
  have e1 : IntKind.i64.wrap (d.bottom - 1) = d.bottom - 1 := IntWalk.i64_in _ (by omega)
  have HR := Lib.hid (h.setBot (d.bottom - 1) (by omega) (by omega))
  unfold phPost St.Ph.run
  clear h
  go_enter Try.func111, Try.ntmps111
  go_wp2
  go_ret2
  exact ⟨_, rfl, HR.out, rfl, frRB (.inl rfl)⟩
end
end Go.Proofs.Ytajccigefoddiaa
