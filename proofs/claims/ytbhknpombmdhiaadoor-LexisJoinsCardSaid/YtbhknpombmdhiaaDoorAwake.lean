/- The function awake of the statements returns true: the program computes a few simple results. -/
import Derived.Test.YtbhknpombmdhiaaDoorTokens
import Derived.Test.YtbhknpombmdhiaaDoorQuoting
namespace Go.Proofs.YtbhknpombmdhiaaDoor
open Go.RowKit

def src1 : List UInt8 := [108, 101, 116, 32, 120, 61, 49, 59, 35, 32, 111, 110, 101]
def src2 : List UInt8 := [120, 32, 36]
def src3 : List UInt8 := [97, 34, 98]
theorem tok1 : Lx.tokens src1 = ([(5, [108, 101, 116], 0), (1, [120], 4), (4, [61], 5), (2, [49], 6), (4, [59], 7), (6, [], 13)], none) := by decide +kernel
theorem tok2 : (Lx.tokens src2).2 = some 2 := by decide +kernel
theorem quo3 : Lx.quoted src3 = some [34, 97, 92, 34, 98, 34] := by decide +kernel

theorem row_cell {w : World} {b n g cap : Nat} {xs : List Value} (h : w.ownsRow b 47 3 (.slice (some ⟨g, 0, none⟩) n cap) n xs) {j : Nat} (hj : j < n * 3) : w.cell? ⟨g, j, none⟩ = xs[j]? := h.cellAt j hj

theorem awake1 (w : World) (henv : Env w) : Calls Tryd.prog 15 #[.string ⟨src1.toArray⟩] w fun e w' => ∃ g cap, e = .returned (.tuple #[.slice (some ⟨g, 0, none⟩) 6 cap, .int .i64 0, .int .i64 0]) ∧
    w'.cell? ⟨g, 0, none⟩ = some (.int .i64 5) ∧ w'.cell? ⟨g, 1, none⟩ = some (.string ⟨#[108, 101, 116]⟩) ∧ w'.cell? ⟨g, 2, none⟩ = some (.int .i64 0) ∧
    w'.cell? ⟨g, 15, none⟩ = some (.int .i64 6) ∧ w'.cell? ⟨g, 16, none⟩ = some (.string ⟨#[]⟩) ∧ w'.cell? ⟨g, 17, none⟩ = some (.int .i64 13) ∧ g < w'.heap.size ∧ Below w.heap.size w w' := by
  refine (tokens_any ⟨src1.toArray⟩ w henv (by decide)).mono ?_
  rintro e w' ⟨h1, _, hb⟩
  have e0 : (⟨src1.toArray⟩ : ByteArray).data.toList = src1 := rfl
  rw [e0, tok1] at h1
  obtain ⟨v, rfl, hr⟩ := h1 rfl
  obtain ⟨g, cap, rfl⟩ := ownsRow_succ (k := 5) hr
  have hc := fun j (hj : j < 18) => row_cell hr (j := j) hj
  exact ⟨g, cap, rfl, hc 0 (by omega), hc 1 (by omega), hc 2 (by omega), hc 15 (by omega), hc 16 (by omega), hc 17 (by omega), (hr.lt g rfl).2, hb⟩

theorem awake2 (w : World) (henv : Env w) : Calls Tryd.prog 15 #[.string ⟨src2.toArray⟩] w fun e w' => e = .returned (.tuple #[.slice none 0 0, .int .i64 2, .int .i64 4]) ∧ Below w.heap.size w w' := by
  refine (tokens_any ⟨src2.toArray⟩ w henv (by decide)).mono ?_
  rintro e w' ⟨_, h2, hb⟩
  exact ⟨h2 2 tok2, hb⟩

theorem awake3 (w : World) : Calls Tryd.prog 28 #[.string ⟨src3.toArray⟩] w fun e w' => e = .returned (.tuple #[.string ⟨#[34, 97, 92, 34, 98, 34]⟩, .int .i64 0]) ∧ Below w.heap.size w w' := by
  refine (quoted_any ⟨src3.toArray⟩ w (by decide)).mono ?_
  rintro e w' ⟨rfl, hb⟩
  exact ⟨by rw [show (⟨src3.toArray⟩ : ByteArray).data.toList = src3 from rfl, quo3]; rfl, hb⟩

set_option maxRecDepth 100000 in
set_option maxHeartbeats 4000000 in
theorem awake_any (w : World) (henv : Env w) : Calls Tryd.prog 18 #[] w fun e w' => e = .returned (.bool true) ∧ Below w.heap.size w w' := by
  go_enter Tryd.func18, Tryd.ntmps18
  go_wp2_with fail
  refine (awake1 w henv).mono ?_
  rintro e w1 ⟨g, cap, rfl, a0, a1, a2, a3, a4, a5, hg, hb1⟩
  have hE1 := henv.below henv.2.2 hb1
  have HA := Lib.hid (And.intro a0 (And.intro a1 (And.intro a2 (And.intro a3 (And.intro a4 a5)))))
  clear a0 a1 a2 a3 a4 a5
  go_wp2_with fail
  refine (awake2 w1 hE1).mono ?_
  rintro e w2 ⟨rfl, hb2⟩
  go_wp2_with fail
  refine (awake3 w2).mono ?_
  rintro e w3 ⟨rfl, hb3⟩
  have hb13 : Below w1.heap.size w1 w3 := hb2.trans (hb3.mono hb2.size)
  have c : ∀ j, w3.cell? ⟨g, j, none⟩ = w1.cell? ⟨g, j, none⟩ := fun j => hb13.cell (p := ⟨g, j, none⟩) hg
  have d0 := (c 0).trans HA.out.1
  have d1 := (c 1).trans HA.out.2.1
  have d2 := (c 2).trans HA.out.2.2.1
  have d3 := (c 15).trans HA.out.2.2.2.1
  have d4 := (c 16).trans HA.out.2.2.2.2.1
  have d5 := (c 17).trans HA.out.2.2.2.2.2
  have HB := Lib.hid (hb1.trans (hb13.mono hb1.size))
  clear c hb1 hb2 hb3 hb13 HA hE1
  go_wp2
  go_ret
  exact ⟨rfl, HB.out⟩

end Go.Proofs.YtbhknpombmdhiaaDoor
