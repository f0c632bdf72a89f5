/- The reference's Same: two equal states are the same. -/
import Derived.Test.YtlibkhndekgnfaaDoorRows2
import Derived.Test.YtlibkhndekgnfaaDoorNil
namespace Go.Proofs.YtlibkhndekgnfaaDoor
open Go.RowKit

set_option maxRecDepth 100000 in
set_option maxHeartbeats 4000000 in
theorem same_any (cap pol dropped : Int) (closed : Bool) (v1 v2 u1 u2 : Value) (b1 b2 b3 b4 : Nat) (lb : List Cn.V) (lw : List Cn.Wt) (w : World) (hlb : lb.length ≤ 1000) (hlw : lw.length ≤ 1000)
    (h1 : VsAt w b1 v1 lb) (h2 : VsAt w b2 v2 lb) (h3 : WsAt w b3 u1 lw) (h4 : WsAt w b4 u2 lw) :
    Calls Tryd.prog 13 #[stateV cap pol closed v1 u1 dropped, stateV cap pol closed v2 u2 dropped] w fun e w' => e = .returned (.bool true) ∧ Below w.heap.size w w' := by
  have hB0 : Below w.heap.size w ((w.alloc (.cells #[.int .i64 cap, .int .i64 pol, .bool closed, v1, u1, .int .i64 dropped] 30)).alloc (.cells #[.int .i64 cap, .int .i64 pol, .bool closed, v2, u2, .int .i64 dropped] 30)) := (one w _).trans ((one _ _).mono (by simp))
  have HB0 := Lib.hid hB0
  have K2 : Hid (∀ wr, Below (w.heap.size + 2) ((w.alloc (.cells #[.int .i64 cap, .int .i64 pol, .bool closed, v1, u1, .int .i64 dropped] 30)).alloc (.cells #[.int .i64 cap, .int .i64 pol, .bool closed, v2, u2, .int .i64 dropped] 30)) wr →
      wr.cell? ⟨w.heap.size + 1, 3, none⟩ = some v2 ∧ wr.cell? ⟨w.heap.size + 1, 4, none⟩ = some u2 ∧ wr.cell? ⟨w.heap.size, 4, none⟩ = some u1) := Lib.hid fun wr hb => by
    refine ⟨?_, ?_, ?_⟩
    · rw [hb.cell (p := ⟨w.heap.size + 1, 3, none⟩) (by simp)]; exact World.cell?_alloc_at _ _ _ _ (by simp)
    · rw [hb.cell (p := ⟨w.heap.size + 1, 4, none⟩) (by simp)]; exact World.cell?_alloc_at _ _ _ _ (by simp)
    · rw [hb.cell (p := ⟨w.heap.size, 4, none⟩) (by simp), World.cell?_alloc_past _ _ _ (by simp)]; exact World.cell?_alloc_at _ _ _ _ rfl
  have H1 := Lib.hid h1
  have H2 := Lib.hid h2
  have H3 := Lib.hid h3
  have H4 := Lib.hid h4
  obtain ⟨p1, c1, rfl, F1⟩ := h1.form2
  obtain ⟨p2, c2, rfl, F2⟩ := h2.form2
  obtain ⟨p3, c3, rfl, F3⟩ := h3.form2
  obtain ⟨p4, c4, rfl, F4⟩ := h4.form2
  have FF1 := Lib.hid F1
  have FF2 := Lib.hid F2
  have FF3 := Lib.hid F3
  have FF4 := Lib.hid F4
  clear h1 h2 h3 h4 F1 F2 F3 F4 hB0
  go_enter Tryd.func13, Tryd.ntmps13
  go_wp2_with fail
  go_loopw [56] (fun i wr => ∃ k : Nat, k ≤ lb.length ∧ i = .int .i64 k ∧ Below (w.heap.size + 2) ((w.alloc (.cells #[.int .i64 cap, .int .i64 pol, .bool closed, .slice p1 lb.length c1, .slice p3 lw.length c3, .int .i64 dropped] 30)).alloc (.cells #[.int .i64 cap, .int .i64 pol, .bool closed, .slice p2 lb.length c2, .slice p4 lw.length c4, .int .i64 dropped] 30)) wr) (fun i _ => lb.length - (intOf i).toNat)
  case atStart => exact ⟨0, Nat.zero_le _, rfl, Below.refl _ _⟩
  case round =>
    obtain ⟨k, hk, rfl, hB⟩ := hrel
    have hz := hB.size
    simp only [World.size_alloc] at hz
    have hBw : Below w.heap.size w wr := HB0.out.trans (hB.mono (by omega))
    have HB := Lib.hid hB
    by_cases hlt : k < lb.length
    · obtain ⟨x, hx⟩ : ∃ x, lb[k]? = some x := ⟨_, List.getElem?_eq_getElem hlt⟩
      obtain ⟨g1, e1, -, hg1, hc1, hm1⟩ := FF1.out (by omega)
      obtain ⟨g2, e2, -, hg2, hc2, hm2⟩ := FF2.out (by omega)
      subst e1 e2
      obtain ⟨q0, q1, q2⟩ := VsAt.cells (H1.out.below hBw) hx
      obtain ⟨r0, r1, r2⟩ := VsAt.cells (H2.out.below hBw) hx
      obtain ⟨s3, -, -⟩ := K2.out wr hB
      have hz1 : g1 < wr.heap.size := by omega
      have hz2 : g2 < wr.heap.size := by omega
      have hz3 : w.heap.size + 1 < wr.heap.size := by omega
      have i0 : (0 : Int) ≤ (k : Int) := by omega
      have i1 : (k : Int) < (lb.length : Int) := by omega
      clear hB hBw hx
      go_wp2
      go_quiet (fail)
      go_wp2
      go_roundw
      case rel => exact ⟨k + 1, by omega, by go_num, below_drewN (HB.out.alloc (by omega) _) _⟩
      case measure => simp [intOf]; omega
    · obtain rfl : k = lb.length := by omega
      obtain ⟨s3, s4, s5⟩ := K2.out wr hB
      have hz3 : w.heap.size + 1 < wr.heap.size := by omega
      have hz4 : w.heap.size < wr.heap.size := by omega
      clear hB hBw
      go_wp2
      go_loopw [72] (fun i wt => ∃ k : Nat, k ≤ lw.length ∧ i = .int .i64 k ∧ Below (w.heap.size + 2) ((w.alloc (.cells #[.int .i64 cap, .int .i64 pol, .bool closed, .slice p1 lb.length c1, .slice p3 lw.length c3, .int .i64 dropped] 30)).alloc (.cells #[.int .i64 cap, .int .i64 pol, .bool closed, .slice p2 lb.length c2, .slice p4 lw.length c4, .int .i64 dropped] 30)) wt) (fun i _ => lw.length - (intOf i).toNat)
      case atStart => exact ⟨0, Nat.zero_le _, rfl, HB.out⟩
      case round =>
        obtain ⟨k, hk, rfl, hB⟩ := hrel
        clear s3 s4 s5 hz3 hz4 HB hz
        have hz := hB.size
        simp only [World.size_alloc] at hz
        have hBw : Below w.heap.size w wr := HB0.out.trans (hB.mono (by omega))
        have HB := Lib.hid hB
        by_cases hlt : k < lw.length
        · obtain ⟨x, hx⟩ : ∃ x, lw[k]? = some x := ⟨_, List.getElem?_eq_getElem hlt⟩
          obtain ⟨g1, e1, -, hg1, hc1, hm1⟩ := FF3.out (by omega)
          obtain ⟨g2, e2, -, hg2, hc2, hm2⟩ := FF4.out (by omega)
          subst e1 e2
          obtain ⟨q0, q1, q2, q3, q4⟩ := WsAt.cells (H3.out.below hBw) hx
          obtain ⟨r0, r1, r2, r3, r4⟩ := WsAt.cells (H4.out.below hBw) hx
          obtain ⟨-, s3, -⟩ := K2.out _ hB
          have hz1 : g1 < wr.heap.size := by omega
          have hz2 : g2 < wr.heap.size := by omega
          have hz3 : w.heap.size + 1 < wr.heap.size := by omega
          have i0 : (0 : Int) ≤ (k : Int) := by omega
          have i1 : (k : Int) < (lw.length : Int) := by omega
          clear hB hBw hx
          go_wp2
          go_quiet (fail)
          go_wp2
          go_roundw
          case rel => exact ⟨k + 1, by omega, by go_num, below_drewN (HB.out.alloc (by omega) _) _⟩
          case measure => simp [intOf]; omega
        · obtain rfl : k = lw.length := by omega
          clear hB hBw
          go_wp2
          go_ret
          exact ⟨rfl, HB0.out.trans (HB.out.mono (by omega))⟩
end Go.Proofs.YtlibkhndekgnfaaDoor
