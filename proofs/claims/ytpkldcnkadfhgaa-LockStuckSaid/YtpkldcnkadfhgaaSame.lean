/- Same over two states that are the same. -/
import Derived.Test.YtpkldcnkadfhgaaMade
namespace Go.Proofs.Ytpkldcnkadfhgaa
open Go.RowKit

theorem box4 (w : World) (x1 x2 x3 x4 y1 y2 y3 y4 : Value) (W : World) (hB : Below ((w.alloc (.cells #[x1, x2, x3, x4] 44)).alloc (.cells #[y1, y2, y3, y4] 44)).heap.size ((w.alloc (.cells #[x1, x2, x3, x4] 44)).alloc (.cells #[y1, y2, y3, y4] 44)) W) :
    W.cell? ⟨w.heap.size, 3, none⟩ = some x4 ∧ W.cell? ⟨w.heap.size + 1, 2, none⟩ = some y3 ∧ W.cell? ⟨w.heap.size + 1, 3, none⟩ = some y4 ∧ w.heap.size + 2 ≤ W.heap.size := by
  have b1 := ((Blk.new w #[x1, x2, x3, x4] 44).alloc (.cells #[y1, y2, y3, y4] 44)).below hB (by simp; omega)
  have b2 := Blk.new (w.alloc (.cells #[x1, x2, x3, x4] 44)) #[y1, y2, y3, y4] 44
  rw [World.size_alloc] at b2
  have b2 := b2.below hB (by simp)
  have := hB.size
  simp at this
  exact ⟨b1.cell 3 (by simp), b2.cell 2 (by simp), b2.cell 3 (by simp), by omega⟩

set_option maxRecDepth 100000 in
set_option maxHeartbeats 4000000 in
theorem same_true (tot fr : Int) (h : Lk.KV) (q : List Int) (hv1 hv2 qv1 qv2 : Value) (b1 b2 : Nat) (w : World) (H1 : HRow w b1 hv1 h) (H2 : HRow w b2 hv2 h) (Q1 : Line w qv1 q) (Q2 : Line w qv2 q) (hh : h.length ≤ 1000000) (hq : q.length ≤ 1000000) :
    Calls Try.prog 18 #[stateV tot fr hv1 qv1, stateV tot fr hv2 qv2] w (still w (.bool true)) := by
  unfold still
  obtain ⟨ph1, ch1, rfl⟩ := owns_form H1
  obtain ⟨ph2, ch2, rfl⟩ := owns_form H2
  obtain ⟨pq1, cq1, rfl, -, -, hp1⟩ := Q1.form
  obtain ⟨pq2, cq2, rfl, -, -, hp2⟩ := Q2.form
  have KA : Hid (∀ j x y, h[j]? = some (x, y) → ∃ g, ph1 = some ⟨g, 0, none⟩ ∧ g < w.heap.size ∧ w.cell? ⟨g, j * 2, none⟩ = some (.int .i64 x) ∧ w.cell? ⟨g, j * 2 + 1, none⟩ = some (.int .i64 y)) := Lib.hid fun j x y e => by
    obtain ⟨g, c, e1, e2, e3, e4⟩ := H1.get e
    cases e1
    exact ⟨g, rfl, e2, e3, e4⟩
  have KB : Hid (∀ j x y, h[j]? = some (x, y) → ∃ g, ph2 = some ⟨g, 0, none⟩ ∧ g < w.heap.size ∧ w.cell? ⟨g, j * 2, none⟩ = some (.int .i64 x) ∧ w.cell? ⟨g, j * 2 + 1, none⟩ = some (.int .i64 y)) := Lib.hid fun j x y e => by
    obtain ⟨g, c, e1, e2, e3, e4⟩ := H2.get e
    cases e1
    exact ⟨g, rfl, e2, e3, e4⟩
  have KC : Hid (∀ j x, q[j]? = some x → ∃ g o, pq1 = some ⟨g, o, none⟩ ∧ g < w.heap.size ∧ w.cell? ⟨g, o + j, none⟩ = some (.int .i64 x)) := Lib.hid fun j x e => by
    obtain ⟨g, o, rfl, hg⟩ := hp1 (by have := (List.getElem?_eq_some_iff.1 e).1; omega)
    exact ⟨g, o, rfl, hg, Q1.cell e⟩
  have KD : Hid (∀ j x, q[j]? = some x → ∃ g o, pq2 = some ⟨g, o, none⟩ ∧ g < w.heap.size ∧ w.cell? ⟨g, o + j, none⟩ = some (.int .i64 x)) := Lib.hid fun j x e => by
    obtain ⟨g, o, rfl, hg⟩ := hp2 (by have := (List.getElem?_eq_some_iff.1 e).1; omega)
    exact ⟨g, o, rfl, hg, Q2.cell e⟩
  obtain ⟨nq, hnq⟩ : ∃ nq, nq = q.length := ⟨_, rfl⟩
  obtain ⟨nh, hnh⟩ : ∃ nh, nh = h.length := ⟨_, rfl⟩
  rw [← hnq] at hq ⊢
  rw [← hnh] at hh ⊢
  have HNQ := Lib.hid hnq; have HNH := Lib.hid hnh
  clear H1 H2 Q1 Q2 hp1 hp2 hnq hnh
  have KX : Hid (∀ W, _ → _) := Lib.hid (box4 w (.int .i64 tot) (.int .i64 fr) (.slice ph1 nh ch1) (.slice pq1 nq cq1) (.int .i64 tot) (.int .i64 fr) (.slice ph2 nh ch2) (.slice pq2 nq cq2))
  have B2 : Hid (Below w.heap.size w ((w.alloc (.cells #[.int .i64 tot, .int .i64 fr, .slice ph1 nh ch1, .slice pq1 nq cq1] 44)).alloc (.cells #[.int .i64 tot, .int .i64 fr, .slice ph2 nh ch2, .slice pq2 nq cq2] 44))) := Lib.hid ((one w _).alloc (by simp) _)
  go_enter Try.func18, Try.ntmps18
  go_wp2_with fail
  go_loopw [42] (fun vi wt => ∃ i : Nat, i ≤ nh ∧ vi = .int .i64 i ∧ Below ((w.alloc (.cells #[.int .i64 tot, .int .i64 fr, .slice ph1 nh ch1, .slice pq1 nq cq1] 44)).alloc (.cells #[.int .i64 tot, .int .i64 fr, .slice ph2 nh ch2, .slice pq2 nq cq2] 44)).heap.size ((w.alloc (.cells #[.int .i64 tot, .int .i64 fr, .slice ph1 nh ch1, .slice pq1 nq cq1] 44)).alloc (.cells #[.int .i64 tot, .int .i64 fr, .slice ph2 nh ch2, .slice pq2 nq cq2] 44)) wt) (fun vi _ => nh - (intOf vi).toNat)
  case atStart => exact ⟨0, Nat.zero_le _, rfl, Below.refl _ _⟩
  case round =>
    obtain ⟨i, hi, rfl, hB⟩ := hrel
    obtain ⟨x3, y2, y3, hsz⟩ := KX.out wr hB
    have HB := Lib.hid hB
    have HBw := Lib.hid (B2.out.trans (hB.mono B2.out.size))
    have hl1 : w.heap.size < wr.heap.size := by omega
    have hl2 : w.heap.size + 1 < wr.heap.size := by omega
    clear hB
    by_cases hlt : i < nh
    · obtain ⟨x, y, hxy⟩ : ∃ x y, h[i]? = some (x, y) := ⟨_, _, List.getElem?_eq_getElem (by have := HNH.out; omega)⟩
      obtain ⟨g1, rfl, hg1, c1, c2⟩ := KA.out i x y hxy
      obtain ⟨g2, rfl, hg2, d1, d2⟩ := KB.out i x y hxy
      have c1 := cell_of HBw.out c1
      have c2 := cell_of HBw.out c2
      have d1 := cell_of HBw.out d1
      have d2 := cell_of HBw.out d2
      have hg1r : g1 < wr.heap.size := by omega
      have hg2r : g2 < wr.heap.size := by omega
      have ii0 : (0 : Int) ≤ (i : Int) := by omega
      have ii1 : (i : Int) < (nh : Int) := by omega
      go_wp2_with fail
      go_quiet (fail)
      go_wp2
      go_roundw
      case rel => exact ⟨i + 1, by omega, by go_num, below_drewN (HB.out.alloc (by simp; omega) _) _⟩
      case measure => simp [intOf]; omega
    · obtain rfl : i = nh := by omega
      clear KA KB
      go_wp2_with fail
      go_loopw [58] (fun vi wt => ∃ j : Nat, j ≤ nq ∧ vi = .int .i64 j ∧ Below w.heap.size w wt ∧ wt.cell? ⟨w.heap.size + 1, 3, none⟩ = some (.slice pq2 nq cq2) ∧ w.heap.size + 2 ≤ wt.heap.size) (fun vi _ => nq - (intOf vi).toNat)
      case atStart => exact ⟨0, Nat.zero_le _, rfl, HBw.out, y3, hsz⟩
      case round =>
        obtain ⟨j, hj, rfl, hB, y3, hsz⟩ := hrel
        have HB2 := Lib.hid hB
        have hl1 : w.heap.size < wr.heap.size := by omega
        have hl2 : w.heap.size + 1 < wr.heap.size := by omega
        clear hB
        by_cases hlt : j < nq
        · obtain ⟨x, hx⟩ : ∃ x, q[j]? = some x := ⟨_, List.getElem?_eq_getElem (by have := HNQ.out; omega)⟩
          obtain ⟨g1, o1, rfl, hg1, c1⟩ := KC.out j x hx
          obtain ⟨g2, o2, rfl, hg2, d1⟩ := KD.out j x hx
          have c1 := cell_of HB2.out c1
          have d1 := cell_of HB2.out d1
          have hg1r : g1 < wr.heap.size := by omega
          have hg2r : g2 < wr.heap.size := by omega
          have ii0 : (0 : Int) ≤ (j : Int) := by omega
          have ii1 : (j : Int) < (nq : Int) := by omega
          go_wp2
          go_roundw
          case rel => exact ⟨j + 1, by omega, by go_num, HB2.out, y3, hsz⟩
          case measure => simp [intOf]; omega
        · obtain rfl : j = nq := by omega
          go_wp2
          go_ret
          exact ⟨rfl, HB2.out⟩
end Go.Proofs.Ytpkldcnkadfhgaa
