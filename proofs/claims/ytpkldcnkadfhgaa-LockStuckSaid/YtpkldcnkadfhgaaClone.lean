/- What clone does: another lock with the same state. -/
import Derived.Test.YtpkldcnkadfhgaaState
namespace Go.Proofs.Ytpkldcnkadfhgaa
open Go.RowKit

theorem clone_map (w : World) (b : Nat) (l : Lk.KV) (h : MapIs w b l) : Calls Try.prog 49 #[.map (some b)] w fun e w' =>
    e = .returned (.map (some w.heap.size)) ∧ MapIs w' w.heap.size l ∧ Below w.heap.size w w' :=
  (AnyW.maps_Clone_owns Try.cloneM 3 (plainElem (H := Unit) Try.prog 3) b l.length (mapD l) w h).mono fun _ _ ⟨h1, h2, _, h4⟩ => ⟨h1, h2, h4⟩
theorem clone_map_nil (w : World) : Calls Try.prog 49 #[.map none] w fun e w' => e = .returned (.map none) ∧ w' = w :=
  AnyW.maps_Clone_nil Try.cloneM w

def clonePost (w : World) (l : Lk.L) (e : Ending) (w' : World) : Prop :=
  ∃ lb' hb' v', e = .returned (.pointer (some ⟨lb', 0, none⟩)) ∧ Lock w' lb' hb' v' l ∧ w.heap.size ≤ lb' ∧ w.heap.size ≤ hb' ∧ lb' ≠ hb' ∧ (∀ k, v'.ownBlock = some k → w.heap.size ≤ k ∧ k ≠ lb' ∧ k ≠ hb') ∧ Below w.heap.size w w'

set_option maxRecDepth 100000 in
set_option maxHeartbeats 2000000 in
theorem clone_any (lb hb : Nat) (v : Value) (l : Lk.L) (w : World) (h : Lock w lb hb v l) (hwl : l.wait.length ≤ 1000000) :
    Calls Try.prog 50 #[.pointer (some ⟨lb, 0, none⟩)] w (clonePost w l) := by
  unfold clonePost
  have c0 : w.cell? ⟨lb, 0, none⟩ = some (.int .i64 l.tot) := h.blk.cell 0 (by omega)
  have c1 : w.cell? ⟨lb, 1, none⟩ = some (.int .i64 l.free) := h.blk.cell 1 (by omega)
  have c2 : w.cell? ⟨lb, 2, none⟩ = some (.map (some hb)) := h.blk.cell 2 (by omega)
  have c3 : w.cell? ⟨lb, 3, none⟩ = some v := h.blk.cell 3 (by omega)
  have hlb := h.blk.lt
  obtain ⟨p, cap, rfl, -⟩ := h.line.form
  obtain ⟨n0, hn0⟩ : ∃ n0, n0 = l.wait.length := ⟨_, rfl⟩
  have CL : Hid (∀ W, Below w.heap.size w W → Calls Try.prog 64 #[.slice p l.wait.length cap] W (lineNew W l.wait)) := Lib.hid fun W hW => clone_line W _ l.wait (h.line.below hW) (by omega)
  have CM : Hid (∀ W, Below w.heap.size w W → Calls Try.prog 49 #[.map (some hb)] W fun e w' => e = .returned (.map (some W.heap.size)) ∧ MapIs w' W.heap.size l.held ∧ Below W.heap.size W w') := Lib.hid fun W hW => clone_map W hb l.held (h.map.below hW)
  have B1 : Hid (Below w.heap.size w w.drew) := Lib.hid (below_drewN (Below.refl _ w) 1)
  rw [← hn0] at c3 CL
  have KS : Hid (∀ W', Below w.heap.size w W' → W'.cell? ⟨lb, 0, none⟩ = some (.int .i64 l.tot) ∧ W'.cell? ⟨lb, 1, none⟩ = some (.int .i64 l.free) ∧ W'.cell? ⟨lb, 2, none⟩ = some (.map (some hb)) ∧ W'.cell? ⟨lb, 3, none⟩ = some (.slice p n0 cap)) := Lib.hid fun W' hW => ⟨cell_of hW c0, cell_of hW c1, cell_of hW c2, cell_of hW c3⟩
  unfold lineNew at CL
  clear h hn0
  go_enter Try.func50, Try.ntmps50
  go_upto_region 1 with fail
  go_region_held3 (fun W' => W'.cell? ⟨lb, 0, none⟩ = some (.int .i64 l.tot) ∧ W'.cell? ⟨lb, 1, none⟩ = some (.int .i64 l.free) ∧ W'.cell? ⟨lb, 2, none⟩ = some (.map (some hb)) ∧ W'.cell? ⟨lb, 3, none⟩ = some (.slice p n0 cap))
    (first | exact KS.out _ B1.out | exact KS.out _ HBM.out | exact KS.out _ HBL.out | exact KS.out _ HBX.out | exact KS.out _ (HBX.out.alloc HBX.out.size _) | go_keep)
    (first
      | (go_at_call 49; refine (CM.out _ B1.out).mono ?_; rintro e w2 ⟨rfl, hM, hb2⟩; have HM := Lib.hid hM; have HBM := Lib.hid (B1.out.trans (hb2.mono B1.out.size)); have hzm := hb2.size; clear hM hb2)
      | (go_at_call 64; refine (CL.out _ B1.out).mono ?_; rintro e w2 ⟨v', rfl, hL, hN, hb2⟩; obtain ⟨p', cap', e', -⟩ := hL.form; obtain ⟨n', hn'⟩ : ∃ n', n' = l.wait.length := ⟨_, rfl⟩; rw [← hn'] at e'; subst e'; have HL := Lib.hid hL; have HN := Lib.hid hN; have HBL := Lib.hid (B1.out.trans (hb2.mono B1.out.size)); have hzl := hb2.size; clear hL hN hb2 hn')
      | (go_at_call 64; refine (CL.out _ HBM.out).mono ?_; rintro e w3 ⟨v', rfl, hL, hN, hb3⟩; obtain ⟨p', cap', e', -⟩ := hL.form; obtain ⟨n', hn'⟩ : ∃ n', n' = l.wait.length := ⟨_, rfl⟩; rw [← hn'] at e'; subst e'; have HL3 := Lib.hid hL; have HN3 := Lib.hid hN; have HBX := Lib.hid (HBM.out.trans (hb3.mono HBM.out.size)); have HM3 := Lib.hid (HM.out.below hb3); have hzx := hb3.size; clear hL hN hb3 hn')
      | (go_at_call 49; refine (CM.out _ HBL.out).mono ?_; rintro e w3 ⟨rfl, hM, hb3⟩; have HM3 := Lib.hid hM; have HBX := Lib.hid (HBL.out.trans (hb3.mono HBL.out.size)); have HL3 := Lib.hid (HL.out.below hb3); have hzx := hb3.size; clear hM hb3))
  all_goals (go_wp2_with fail)
  go_ret
  have hm2 := HM.out.lt
  simp at hm2
  refine ⟨w3.heap.size, w.heap.size, .slice p' n' cap', rfl, ⟨(Blk.new w3 _ 82).ext fun o ho => ?_, HM3.out.alloc _, HL3.out.alloc _⟩, by omega, Nat.le_refl _, by omega, fun k e => ?_, HBX.out.alloc HBX.out.size _⟩
  · have : o = 0 ∨ o = 1 ∨ o = 2 ∨ o = 3 := by simp at ho; omega
    rcases this with rfl | rfl | rfl | rfl <;> simp [lG]
  · have h1 := HN3.out k e
    have h2 := HL3.out.block k e
    exact ⟨by omega, by omega, by omega⟩
end Go.Proofs.Ytpkldcnkadfhgaa
