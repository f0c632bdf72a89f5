/- The step of a take that reads the last number. -/
import Derived.Test.YtajccigefoddiaaPh3
import Derived.Deep.DeepCutAuto
namespace Go.Proofs.Ytajccigefoddiaa
set_option linter.unusedVariables false
set_option linter.unusedSimpArgs false
open Go.RowKit
theorem bAl {w W : World} (h : Below w.heap.size w W) (o : Obj) : Below w.heap.size w (W.alloc o) := h.alloc h.size o
theorem bDr {w W : World} (h : Below w.heap.size w W) : Below w.heap.size w W.drew := below_drewN h 1
theorem bSt {w W : World} (h : Below w.heap.size w W) {b : Nat} (hb : w.heap.size ≤ b) (o : Nat) (v : Value) : Below w.heap.size w (W.setCell ⟨b, o, none⟩ v) := h.setCell (p := ⟨b, o, none⟩) hb v
section
variable {W W' w : World} {rb cb : Nat} {av : Value} {d : St.Dq} {A : Nat → Prop}
/-- Behind the statement: the variables t and x. -/
def RlCut (w : World) (t : Nat) (y : Int) (s4 s5 : Value) (wx : World) : Prop :=
  ∃ a b, s4 = ptr a ∧ s5 = ptr b ∧ w.heap.size ≤ a ∧ w.heap.size ≤ b ∧ a < wx.heap.size ∧ b < wx.heap.size ∧ wx.cell? ⟨a, 0, none⟩ = some (natV t) ∧ wx.cell? ⟨b, 0, none⟩ = some (.int .i64 y) ∧ Below w.heap.size w wx
def TwoC (W : World) (a : Nat) (p : Value) (b : Nat) (q : Value) : Prop := a < W.heap.size ∧ b < W.heap.size ∧ W.cell? ⟨a, 0, none⟩ = some p ∧ W.cell? ⟨b, 0, none⟩ = some q
theorem TwoC.rl {a b t : Nat} {y : Int} (h : TwoC W a (natV t) b (.int .i64 y)) (ha : w.heap.size ≤ a) (hb : w.heap.size ≤ b) (hB : Below w.heap.size w W) : RlCut w t y (ptr a) (ptr b) W :=
  ⟨a, b, rfl, rfl, ha, hb, h.1, h.2.1, h.2.2.1, h.2.2.2, hB⟩
theorem TwoC.swap {a b : Nat} {p q : Value} (h : TwoC W a p b q) : TwoC W b q a p := ⟨h.2.1, h.1, h.2.2.2, h.2.2.1⟩
theorem two_aa (p q : Value) : TwoC ((w.alloc (.cells #[p] 3)).alloc (.cells #[q] 3)) w.heap.size p (w.heap.size + 1) q := by
  have h1 := (Blk.new w #[p] 3).alloc (.cells #[q] 3)
  have h2 := Blk.new (w.alloc (.cells #[p] 3)) #[q] 3
  rw [World.size_alloc] at h2
  exact ⟨h1.lt, h2.lt, h1.cell 0 _ rfl, h2.cell 0 _ rfl⟩
theorem two_sa {a : Nat} {z : Value} (p q : Value) (h : Blk w a [z]) : TwoC ((w.setCell ⟨a, 0, none⟩ p).alloc (.cells #[q] 3)) a p w.heap.size q := by
  have h1 := (h.set (o := 0) (by simp) p).alloc (.cells #[q] 3)
  have h2 := Blk.new (w.setCell ⟨a, 0, none⟩ p) #[q] 3
  have e : (w.setCell ⟨a, 0, none⟩ p).heap.size = w.heap.size := by simp [World.setCell]
  rw [e] at h2
  exact ⟨h1.lt, h2.lt, h1.cell 0 _ rfl, h2.cell 0 _ rfl⟩
theorem two_ss {a b : Nat} {z z' : Value} (p q : Value) (h : Blk w a [z]) (k : Blk w b [z']) (hn : a ≠ b) : TwoC ((w.setCell ⟨a, 0, none⟩ p).setCell ⟨b, 0, none⟩ q) a p b q := by
  have h1 := (h.set (o := 0) (by simp) p).set_other (o := 0) hn q
  have h2 := (k.set_other (o := 0) (Ne.symm hn) p).set (o := 0) (by simp) q
  exact ⟨h1.lt, h2.lt, h1.cell 0 _ rfl, h2.cell 0 _ rfl⟩
set_option maxRecDepth 100000 in
set_option maxHeartbeats 2000000 in
theorem readLast_any (h : Dr w rb cb av d) (hp : 0 ≤ d.bottom) : Calls Try.prog 113 #[ptr rb] w (phPost w rb cb av A (St.Ph.run d .readLast)) := by
  obtain ⟨b, hbb⟩ : ∃ b : Nat, d.bottom = b := ⟨d.bottom.toNat, by omega⟩
  have e : St.Ph.run d .readLast = (d, some (.last b (d.cell b)), 0) := by simp [St.Ph.run, hbb]
  rw [e]
  have c2 := h.blk.cell 2 _ rfl
  rw [hbb] at c2
  have hlt := h.blk.lt
  have hb2 := h.bot2
  have HD := Lib.hid h
  have C : Hid (∀ W, Below w.heap.size w W → Calls Try.prog 50 #[ptr rb, natV b] W (fun e w' => e = .returned (.pointer (some ⟨cb, d.place b, none⟩)) ∧ Below W.heap.size W w' ∧ Below w.heap.size w w')) := Lib.hid fun W hW => (cell_any (HD.out.below hW) b (by omega)).mono fun e w' ⟨h1, h2⟩ => ⟨h1, h2, hW.trans (h2.mono hW.size)⟩
  have B0 : Hid (Below w.heap.size w w) := Lib.hid (Below.refl _ _)
  have KS : Hid (∀ W, Below w.heap.size w W → W.cell? ⟨rb, 2, none⟩ = some (natV b) ∧ W.cell? ⟨cb, d.place b, none⟩ = some (.int .i64 (d.cell b))) := Lib.hid fun W hW => ⟨cell_of hW c2, dr_pos HD.out hW b⟩
  have hclt := h.cel.lt
  have N1 := Lib.hid (Blk.new w #[.int .i64 0] 3)
  have N2 := Lib.hid ((Blk.new w #[.int .i64 0] 3).alloc (.cells #[.int .i64 0] 3))
  have N3 := Lib.hid (Blk.new (w.alloc (.cells #[.int .i64 0] 3)) #[.int .i64 0] 3)
  rw [World.size_alloc] at N3
  unfold phPost
  generalize d.place b = m at *
  generalize d.cell b = y at *
  clear h e hbb hb2 hp
  go_enter Try.func113, Try.ntmps113
  go_upto_region 1 with fail
  go_cut [4, 5] (fun s4 s5 wx => RlCut w b y s4 s5 wx)
  case first =>
    go_region_held3 (fun W' => W'.cell? ⟨rb, 2, none⟩ = some (natV b) ∧ W'.cell? ⟨cb, m, none⟩ = some (.int .i64 y))
      (first | exact KS.out _ (by repeat (first | exact B0.out | exact HB2.out | (with_reducible refine bDr ?_) | (with_reducible refine bAl ?_ _) | (with_reducible refine bSt ?_ (by omega) _ _))) | go_keep)
      ((go_at_call 50; refine (C.out _ (by repeat (first | exact B0.out | (with_reducible refine bDr ?_) | (with_reducible refine bAl ?_ _)))).mono ?_; rintro e w2 ⟨rfl, hb, hb2⟩; have HB2 := Lib.hid hb2; have HB := Lib.hid hb; have y1 := (KS.out _ hb2).2; have x2 := (KS.out _ hb2).1; have hc2 := Nat.lt_of_lt_of_le hclt hb2.size; have hl2 := Nat.lt_of_lt_of_le hlt hb2.size; have hz2 := hb2.size; (try (have n1 := N1.out.drew.below hb (by simp); have n1c := n1.cell 0 _ rfl; have n1z := n1.fz 0; have n1l := n1.lt; have NN1 := Lib.hid n1; clear n1)); (try (have n2 := N2.out.drew.below hb (by simp; omega); have n2c := n2.cell 0 _ rfl; have n2z := n2.fz 0; have n2l := n2.lt; have NN2 := Lib.hid n2; clear n2)); (try (have n3 := N3.out.drew.below hb (by simp); have n3c := n3.cell 0 _ rfl; have n3z := n3.fz 0; have n3l := n3.lt; have NN3 := Lib.hid n3; clear n3)); clear hb hb2))
    all_goals (go_wp2_with fail; go_meet)
    case rel => exact (two_aa _ _).rl hz2 (by omega) (bAl (bAl HB2.out _) _)
    case rel => exact (two_aa _ _).swap.rl (by omega) hz2 (bAl (bAl HB2.out _) _)
    case rel => exact (two_sa _ _ NN1.out).rl (Nat.le_refl _) hz2 (bAl (bSt HB2.out (Nat.le_refl _) _ _) _)
    case rel => exact (two_ss _ _ NN2.out NN3.out (by omega)).rl (Nat.le_refl _) (by omega) (bSt (bSt HB2.out (Nat.le_refl _) _ _) (by omega) _ _)
    case rel => exact (two_sa _ _ NN1.out).swap.rl hz2 (Nat.le_refl _) (bAl (bSt HB2.out (Nat.le_refl _) _ _) _)
    case rel => exact (two_ss _ _ NN3.out NN2.out (by omega)).rl (by omega) (Nat.le_refl _) (bSt (bSt HB2.out (by omega) _ _) (Nat.le_refl _) _ _)
  case rest =>
    obtain ⟨a, b', rfl, rfl, ha, hb, hal, hbl, hac, hbc, hB⟩ := hcut
    have HB := Lib.hid hB
    clear hB
    go_wp2
    go_ret2
    exact ⟨_, rfl, HD.out.below HB.out, ⟨a, b', rfl, cst_new ha hal hac, cst_new hb hbl hbc⟩, Fr.of_below HB.out⟩
end
end Go.Proofs.Ytajccigefoddiaa
