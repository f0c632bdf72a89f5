/- What Acquire does, whatever its arguments are. -/
import Derived.Test.YtapbghkoijmjeaaAcq
namespace Go.Proofs.Ytapbghkoijmjeaa
set_option linter.unusedVariables false
set_option linter.unusedSimpArgs false
open Go.RowKit
def goneI (w : World) (own : Own) (lb : Nat) (r : Ld.T × Int) (e : Ending) (w' : World) : Prop := e = .returned (.int .i64 r.2) ∧ Gone w own lb r.1 w'
theorem knows_nat {task : Int} (h : Ld.knows task = true) : ∃ k : Nat, task = (k : Int) ∧ 1 ≤ k ∧ k ≤ 64 := by
  unfold Ld.knows at h
  simp at h
  exact ⟨task.toNat, by omega, by omega, by omega⟩
section
variable {w : World} {own : Own} {lb : Nat} {L : Lay} {t : Ld.T}
set_option maxRecDepth 100000 in
theorem acquire_bad (h : Rep w own lb L t) (task what : Int) (hb : (Ld.knows task && Ld.isWhat what) = false) :
    Calls Try.prog 17 #[ptr lb, .int .i64 task, .int .i64 what] w (same w (.int .i64 2)) := by
  have hlt := h.blk.lt
  unfold same
  by_cases hk : Ld.knows task = true
  · have hw : Ld.isWhat what = false := by rw [hk] at hb; simpa using hb
    obtain ⟨k, rfl, h1, h2⟩ := knows_nat hk
    have KN := Lib.hid (knows_yes (k : Int) ⟨lb, 0, none⟩ w (by omega) (by omega))
    have WN := Lib.hid (isWhat_any what w)
    rw [hw] at WN
    unfold same at KN WN
    clear h hb hk hw
    go_enter Try.func17, Try.ntmps17
    go_wp2_with fail
    refine KN.out.mono ?_
    rintro e w2 ⟨rfl, rfl⟩
    go_wp2_with fail
    refine WN.out.mono ?_
    rintro e w2 ⟨rfl, rfl⟩
    go_wp2
    go_ret
    exact ⟨rfl, rfl⟩
  · have hk' : Ld.knows task = false := by simpa using hk
    have KN := Lib.hid (knows_no task ⟨lb, 0, none⟩ w hk')
    unfold same at KN
    clear h hb hk hk'
    go_enter Try.func17, Try.ntmps17
    go_wp2_with fail
    refine KN.out.mono ?_
    rintro e w2 ⟨rfl, rfl⟩
    go_wp2
    go_ret
    exact ⟨rfl, rfl⟩
set_option maxRecDepth 100000 in
set_option maxHeartbeats 1000000 in
theorem acquire_full (h : Rep w own lb L t) {k : Nat} (h1 : 1 ≤ k) (h2 : k ≤ 64) (what : Int) (hw : Ld.isWhat what = true) (hn : (t.hs k).length = 40 ∨ t.es.length = 400) :
    Calls Try.prog 17 #[ptr lb, .int .i64 (k : Int), .int .i64 what] w (same w (.int .i64 5)) := by
  have KN := Lib.hid (knows_yes (k : Int) ⟨lb, 0, none⟩ w (by omega) (by omega))
  have WN := Lib.hid (isWhat_any what w)
  rw [hw] at WN
  obtain ⟨p, cap, e, g1, g2, -⟩ := h.hform (k := k) (by omega)
  have SZ : Hid (Calls Try.prog 42 #[ptrH lb k] w (same w (natV (t.hs k).length))) := Lib.hid (size_any w lb (2 + k) p _ cap (by rw [← e]; exact h.hcell (by omega)))
  obtain ⟨pe, ce, ee, ge1, ge2, -⟩ := h.eform
  have c1 := h.blk.cell 1 _ rfl
  rw [ee] at c1
  have hlt := h.blk.lt
  unfold same at KN WN SZ ⊢
  generalize (t.hs k).length = n at *
  generalize t.es.length = m at *
  have kk1 : (0 : Int) ≤ (k : Int) := by omega
  have kk2 : (k : Int) < 65 := by omega
  have kk3 : ((k : Int)).toNat = k := by omega
  clear h hw e ee
  by_cases hx : n = 40
  · have hx1 : ((n : Int) == 40) = true := by simp; omega
    clear hn hx
    go_enter Try.func17, Try.ntmps17
    go_wp2_with fail
    refine KN.out.mono ?_
    rintro e w2 ⟨rfl, rfl⟩
    go_wp2_with fail
    refine WN.out.mono ?_
    rintro e w2 ⟨rfl, rfl⟩
    go_wp2_with fail
    refine SZ.out.mono ?_
    rintro e w2 ⟨rfl, rfl⟩
    go_wp2
    go_ret
    exact ⟨rfl, rfl⟩
  · have hx1 : ((n : Int) == 40) = false := by simp; omega
    have hx2 : ((m : Int) == 400) = true := by simp; omega
    clear hn hx
    go_enter Try.func17, Try.ntmps17
    go_wp2_with fail
    refine KN.out.mono ?_
    rintro e w2 ⟨rfl, rfl⟩
    go_wp2_with fail
    refine WN.out.mono ?_
    rintro e w2 ⟨rfl, rfl⟩
    go_wp2_with fail
    refine SZ.out.mono ?_
    rintro e w2 ⟨rfl, rfl⟩
    go_wp2
    go_ret
    exact ⟨rfl, rfl⟩
theorem acquire_any (h : Rep w own lb L t) (hk : Ld.Ok t) (task what : Int) : Calls Try.prog 17 #[ptr lb, .int .i64 task, .int .i64 what] w (goneI w own lb (Ld.acquire t task what)) := by
  unfold goneI Ld.acquire
  by_cases hb : (Ld.knows task && Ld.isWhat what) = false
  · rw [if_pos hb]
    refine (acquire_bad h task what hb).mono ?_
    rintro e w' ⟨rfl, rfl⟩
    exact ⟨rfl, h.gone⟩
  · rw [if_neg hb]
    have hb' : Ld.knows task = true ∧ Ld.isWhat what = true := by simpa using hb
    obtain ⟨k, rfl, h1, h2⟩ := knows_nat hb'.1
    rw [show ((k : Int)).toNat = k by omega]
    by_cases hf : (t.hs k).length = 40 ∨ t.es.length = 400
    · rw [if_pos hf]
      refine (acquire_full h h1 h2 what hb'.2 hf).mono ?_
      rintro e w' ⟨rfl, rfl⟩
      exact ⟨rfl, h.gone⟩
    · rw [if_neg hf]
      exact acquire_ok h hk h1 h2 what hb'.2 (by have := hk.n40 k; omega) (by have := hk.n400; omega)
end
end Go.Proofs.Ytapbghkoijmjeaa
