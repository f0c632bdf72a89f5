/- The function awake of the statements returns true. -/
import Derived.Test.YtcegmdlmnibheaaNew
import Derived.Test.YtcegmdlmnibheaaOpen
import Derived.Test.YtcegmdlmnibheaaSpawn
import Derived.Test.YtcegmdlmnibheaaEnd4
import Derived.Test.YtcegmdlmnibheaaLeave
namespace Go.Proofs.Ytcegmdlmnibheaa
set_option linter.unusedVariables false
set_option linter.unusedSimpArgs false
open Go.RowKit

def xF : Tr.F := ⟨1, ⟨#[120]⟩⟩
def aw2 : Tr.T := ⟨[⟨false, Tr.f0, none, [some 0], false, Tr.f0⟩], [⟨false, Tr.f0, 0, false, []⟩]⟩
def aw3 : Tr.T := ⟨[⟨false, Tr.f0, none, [some 0], false, Tr.f0⟩, ⟨false, Tr.f0, some 0, [], false, Tr.f0⟩], [⟨false, Tr.f0, 0, false, [1]⟩]⟩
def aw4 : Tr.T := ⟨[⟨false, Tr.f0, none, [some 0], false, Tr.f0⟩, ⟨true, xF, some 0, [], false, Tr.f0⟩], [⟨false, xF, 0, false, [1]⟩]⟩
def aw5 : Tr.T := ⟨[⟨false, Tr.f0, none, [], false, Tr.f0⟩, ⟨true, xF, some 0, [], false, Tr.f0⟩], [⟨true, xF, 0, false, [1]⟩]⟩
theorem aw_open : Tr.open_ (Tr.new 1) 1 false = (aw2, 1, 0) := by rfl
theorem aw_spawn : Tr.spawn aw2 1 = (aw3, 2, 0) := by rfl
theorem aw_end : Tr.end_ aw3 2 xF = (aw4, [Tr.eScope 0], 0) := by rfl
theorem valid_f0 : Tr.validB Tr.f0 = true := by
  unfold Tr.validB Tr.f0
  rw [if_pos (.inl rfl)]
  simp [ByteArray.toList_eq]
theorem aw_leave : Tr.leave aw4 1 Tr.f0 = (aw5, [Tr.eLeft 0 0 xF], 0) := by
  unfold Tr.leave
  rw [valid_f0]
  rfl
theorem effs_cell {W : World} {n0 : Nat} {p : Option Addr} {cap : Nat} {e : Tr.E} (h : W.ownsRow n0 76 5 (.slice p 1 cap) 1 ([e].flatMap efC)) :
    ∃ g, p = some ⟨g, 0, none⟩ ∧ g < W.heap.size ∧ n0 ≤ g ∧ W.cell? ⟨g, 0, none⟩ = some (.int .i64 e.k) ∧ W.cell? ⟨g, 1, none⟩ = some (.int .i64 e.n) ∧ W.cell? ⟨g, 2, none⟩ = some (.int .i64 e.m) ∧ W.cell? ⟨g, 3, none⟩ = some (.int .i64 e.f.k) ∧ W.cell? ⟨g, 4, none⟩ = some (.string e.f.s) := by
  obtain ⟨g, cap', e1⟩ := ownsRow_succ (n := 0) h
  cases e1
  have hc := row_cells5 h
  have hl := h.lt g rfl
  have key : ∀ (j : Nat) u, ([e].flatMap efC)[j]? = some u → W.cell? ⟨g, j, none⟩ = some u := fun j u hu => by have := hc j u hu; rw [add_off] at this; simpa using this
  exact ⟨g, rfl, hl.2, hl.1, key 0 _ rfl, key 1 _ rfl, key 2 _ rfl, key 3 _ rfl, key 4 _ rfl⟩
set_option maxRecDepth 100000 in
set_option maxHeartbeats 8000000 in
theorem awake_any (w : World) : Calls Try.prog 13 #[] w (still w (.bool true)) := by
  unfold still
  have N := Lib.hid (new_ok w 1 (by omega) (by omega))
  unfold newPost at N
  go_enter Try.func13, Try.ntmps13
  go_wp2_with fail
  refine N.out.mono ?_
  rintro e w1 ⟨rfl, own1, hO1⟩
  have H1 := Lib.hid hO1
  obtain ⟨L1, hR1⟩ := hO1.rep
  have A1 := Lib.hid (open_any hR1 hO1.lim 1 false)
  unfold goneII at A1
  rw [aw_open] at A1
  clear hO1 hR1 N
  go_wp2_with fail
  refine A1.out.mono ?_
  rintro e w2 ⟨rfl, hG2⟩
  obtain ⟨own2, hO2, -, -⟩ := H1.out.gone hG2 (by have := H1.out.lim.open_ 1 false; rw [aw_open] at this; exact this)
  have H2 := Lib.hid hO2
  obtain ⟨L2, hR2⟩ := hO2.rep
  have A2 := Lib.hid (spawn_any hR2 hO2.lim 1)
  unfold goneII at A2
  rw [aw_spawn] at A2
  clear hO2 hR2 hG2 A1 H1
  go_wp2_with fail
  refine A2.out.mono ?_
  rintro e w3 ⟨rfl, hG3⟩
  obtain ⟨own3, hO3, -, -⟩ := H2.out.gone hG3 (by have := H2.out.lim.spawn 1; rw [aw_spawn] at this; exact this)
  have H3 := Lib.hid hO3
  have hO3' := hO3.below (one w3 (.cells #[.int .i64 1, .string ⟨#[120]⟩] 37))
  obtain ⟨L3, hR3⟩ := hO3'.rep
  have A3 := Lib.hid (end_any hR3 hO3'.lim 2 xF (by decide))
  have H3' := Lib.hid hO3'
  unfold goneE at A3
  rw [aw_end] at A3
  have CB := Lib.hid (Blk.new w3 #[.int .i64 1, .string ⟨#[120]⟩] 37)
  have hs3 := hO3.bel.size
  have on3 : Hid (own3 w3.heap.size = none) := Lib.hid (by obtain ⟨L, hR⟩ := hO3.rep; exact hR.not_own (Nat.le_refl _))
  unfold flV xF at A3
  clear hO3 hR3 hG3 A2 H2 hO3'
  go_wp2_with fail
  refine A3.out.mono ?_
  rintro e w4 ⟨p4, cap4, rfl, hG4⟩
  obtain ⟨own4, L4, hR4, hk4, hF4, hrow4, hn4⟩ := hG4
  obtain ⟨own4', hO4, hk4', -⟩ := H3'.out.gone ⟨own4, L4, hR4, hk4, hF4⟩ (by have := H3'.out.lim.end_ 2 xF; rw [aw_end] at this; exact this)
  have C4 := CB.out.fr hF4 (fun h => h on3.out)
  have H4 := Lib.hid hO4
  obtain ⟨L4', hR4'⟩ := hO4.rep
  have A4 := Lib.hid (leave_any hR4' hO4.lim 1 Tr.f0 (by decide))
  unfold goneE at A4
  rw [aw_leave] at A4
  have CB4 := Lib.hid C4
  have on4 : Hid (own4' w3.heap.size = none) := Lib.hid ((hk4' _ (by simp)).trans on3.out)
  unfold flV Tr.f0 at A4
  clear hO4 hR4 hR4' hk4 hk4' hF4 hrow4 hn4 A3 C4 CB H3 H3'
  go_wp2_with fail
  refine A4.out.mono ?_
  rintro e w5 ⟨p5, cap5, rfl, hG5⟩
  obtain ⟨own5, L5, hR5, hk5, hF5, hrow5, hn5⟩ := hG5
  obtain ⟨own5', hO5, -, -⟩ := H4.out.gone ⟨own5, L5, hR5, hk5, hF5⟩ (by have := H4.out.lim.leave 1 Tr.f0; rw [aw_leave] at this; exact this)
  have H5 := Lib.hid hO5.bel
  have C5 := CB4.out.fr hF5 (fun h => h on4.out)
  obtain ⟨g, rfl, hg, -, e0, e1, e2, e3, e4⟩ := effs_cell hrow5
  have x0 := C5.cell 0 _ rfl
  have x1 := C5.cell 1 _ rfl
  have xl := C5.lt
  unfold Tr.eLeft xF at e0 e1 e2 e3 e4
  simp only at e0 e1 e2 e3 e4
  clear hO5 hR5 hk5 hF5 hrow5 hn5 A4 C5 CB4 H4 on3 on4
  go_wp2_with fail
  go_quiet (fail)
  go_wp2
  go_ret
  exact ⟨rfl, below_drewN H5.out _⟩
end Go.Proofs.Ytcegmdlmnibheaa
