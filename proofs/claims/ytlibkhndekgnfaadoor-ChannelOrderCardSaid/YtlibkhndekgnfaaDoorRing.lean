/- The ring of a channel's buffer: which cell is whose; putting and taking. -/
import Derived.Test.YtlibkhndekgnfaaDoorSpec
import Derived.Deep.RegionHeld3
import Derived.Deep.RegionWith
namespace Go.Proofs.YtlibkhndekgnfaaDoor
open Go.RowKit

set_option maxRecDepth 100000 in
set_option maxHeartbeats 1000000 in
theorem cell_any (b f i q : Nat) (w : World) (hc : w.cell? ⟨b, 51, none⟩ = some (.int .i64 f)) (hf : f < 16) (hi : i ≤ 16) (hq : (f + i) % 16 = q) :
    Calls Tryd.prog 51 #[.pointer (some ⟨b, 3, none⟩), .int .i64 i] w fun e w' => e = .returned (.pointer (some ⟨b, 3 + q * 3, none⟩)) ∧ ∃ n, w.drewN n = w' := by
  have hm : ((f : Int) + (i : Int)).tmod 16 = ((q : Nat) : Int) := by
    rw [show ((f : Int) + (i : Int)) = ((f + i : Nat) : Int) by omega, ← hq]
    exact Int.ofNat_tmod _ _
  have hlt : q < 16 := hq ▸ Nat.mod_lt _ (by omega)
  have hsum : IntKind.i64.wrap ((f : Int) + (i : Int)) = (f : Int) + i := IntWalk.i64_in _ (by omega)
  clear hq
  have h0 : (0 : Int) ≤ (q : Int) := by omega
  have h16 : (q : Int) < 16 := by omega
  have hq : ((q : Int)).toNat = q := by omega
  have hw : IntKind.i64.wrap (q : Int) = q := IntWalk.i64_in _ (by omega)
  go_enter Tryd.func51, Tryd.ntmps51
  go_wp2
  go_quiet (fail)
  go_wp2
  go_ret
  exact ⟨rfl, nq, rfl⟩

theorem cell_zero (b f : Nat) (w : World) (hc : w.cell? ⟨b, 51, none⟩ = some (.int .i64 f)) (hf : f < 16) :
    Calls Tryd.prog 51 #[.pointer (some ⟨b, 3, none⟩), .int .i64 0] w fun e w' => e = .returned (.pointer (some ⟨b, 3 + f * 3, none⟩)) ∧ ∃ n, w.drewN n = w' :=
  cell_any b f 0 f w hc hf (by omega) (by omega)

theorem set_other {W : World} {b o c x : Nat} {u v : Value} (h : W.cell? ⟨c, x, none⟩ = some v) (hx : c ≠ b ∨ x ≠ o) : (W.setCell ⟨b, o, none⟩ u).cell? ⟨c, x, none⟩ = some v :=
  (World.cell?_setCell_other _ _ _ _ (fun e => by injection e with h1 h2; rcases hx with hx | hx; exact hx h1.symm; exact hx h2.symm)).trans h
theorem set3 {W : World} {b o c x : Nat} {u0 u1 u2 v : Value} (h : W.cell? ⟨c, x, none⟩ = some v) (hx : c ≠ b ∨ x < o ∨ o + 2 < x) :
    (((W.setCell ⟨b, o, none⟩ u0).setCell ⟨b, o + 1, none⟩ u1).setCell ⟨b, o + 2, none⟩ u2).cell? ⟨c, x, none⟩ = some v :=
  set_other (set_other (set_other h (by omega)) (by omega)) (by omega)

set_option maxRecDepth 100000 in
set_option maxHeartbeats 1000000 in
theorem put_any (b f m q : Nat) (k n : Int) (s : ByteArray) (w : World) (g : Nat → Value) (hb : Blk w b 55 g) (h51 : g 51 = .int .i64 f) (h52 : g 52 = .int .i64 m) (hf : f < 16) (hm : m < 16) (hq : (f + m) % 16 = q) :
    Calls Tryd.prog 44 #[.pointer (some ⟨b, 3, none⟩), .agg #[.int .i64 k, .int .i64 n, .string s]] w fun e w' => e = .returned (.tuple #[]) ∧ Blk w' b 55 (upd (upd (upd (upd g (3 + q * 3) (.int .i64 k)) (3 + q * 3 + 1) (.int .i64 n)) (3 + q * 3 + 2) (.string s)) 52 (.int .i64 (m + 1))) ∧ Fr [b] w w' := by
  have c51 := hb.cell 51 (by omega)
  have c52 := hb.cell 52 (by omega)
  have hq16 : q < 16 := hq ▸ Nat.mod_lt _ (by omega)
  have d0 := hb.cell (3 + q * 3) (by omega)
  have d1 := hb.cell (3 + q * 3 + 1) (by omega)
  have d2 := hb.cell (3 + q * 3 + 2) (by omega)
  have z0 := hb.fz (3 + q * 3)
  have z1 := hb.fz (3 + q * 3 + 1)
  have z2 := hb.fz (3 + q * 3 + 2)
  have z3 := hb.fz 52
  have hlt := hb.lt
  rw [h51] at c51
  rw [h52] at c52
  have HQ := Lib.hid hq
  have HB := Lib.hid hb
  clear hb hq
  go_enter Tryd.func44, Tryd.ntmps44
  go_wp2
  go_region_held3 (fun w' => w'.cell? ⟨b, 52, none⟩ = some (.int .i64 m) ∧ w'.cell? ⟨b, 51, none⟩ = some (.int .i64 f) ∧ w'.cell? ⟨w.heap.size, 0, none⟩ = some (.int .i64 k) ∧ w'.cell? ⟨w.heap.size, 1, none⟩ = some (.int .i64 n) ∧ w'.cell? ⟨w.heap.size, 2, none⟩ = some (.string s)) (first | go_keep | exact ⟨set3 (by simp [*]) (by omega), set3 (by simp [*]) (by omega), set3 (by simp [*]) (by omega), set3 (by simp [*]) (by omega), set3 (by simp [*]) (by omega)⟩) ((go_at_call 51; refine (cell_any b f m q _ (by first | assumption | simp [*]) hf (by omega) HQ.out).mono ?_; rintro e w' ⟨rfl, nn, rfl⟩))
  all_goals go_wp2
  all_goals go_end0
  all_goals exact ⟨rfl, ((((((HB.out.alloc _).drewN _).set (by omega) _).set (by omega) _).set (by omega) _).set (by omega) _), ((((((Fr.refl _ _).alloc _).drewN _).set (.inl (by simp)) _ _).set (.inl (by simp)) _ _).set (.inl (by simp)) _ _).set (.inl (by simp)) _ _⟩

set_option maxRecDepth 100000 in
set_option maxHeartbeats 1000000 in
theorem ringTake_any (b f m : Nat) (k n : Int) (s : ByteArray) (w : World) (g : Nat → Value) (hb : Blk w b 55 g) (h51 : g 51 = .int .i64 f) (h52 : g 52 = .int .i64 m) (hf : f < 16) (hm : m ≤ 16) (hm0 : 0 < m)
    (e0 : g (3 + f * 3) = .int .i64 k) (e1 : g (3 + f * 3 + 1) = .int .i64 n) (e2 : g (3 + f * 3 + 2) = .string s) :
    Calls Tryd.prog 43 #[.pointer (some ⟨b, 3, none⟩)] w fun e w' => e = .returned (.agg #[.int .i64 k, .int .i64 n, .string s]) ∧ Blk w' b 55 (upd (upd (upd (upd (upd g (3 + f * 3) (.int .i64 0)) (3 + f * 3 + 1) (.int .i64 0)) (3 + f * 3 + 2) (.string ⟨#[]⟩)) 51 (.int .i64 ((f + 1) % 16 : Nat))) 52 (.int .i64 (m - 1 : Nat))) ∧ Fr [b] w w' := by
  have c51 := hb.cell 51 (by omega)
  have c52 := hb.cell 52 (by omega)
  have d0 := hb.cell (3 + f * 3) (by omega)
  have d1 := hb.cell (3 + f * 3 + 1) (by omega)
  have d2 := hb.cell (3 + f * 3 + 2) (by omega)
  have z0 := hb.fz (3 + f * 3)
  have z1 := hb.fz (3 + f * 3 + 1)
  have z2 := hb.fz (3 + f * 3 + 2)
  have z3 := hb.fz 52
  have z4 := hb.fz 51
  have hlt := hb.lt
  rw [h51] at c51
  rw [h52] at c52
  rw [e0] at d0
  rw [e1] at d1
  rw [e2] at d2
  have HB := Lib.hid hb
  clear hb e0 e1 e2 h51 h52
  go_enter Tryd.func43, Tryd.ntmps43
  go_wp2_with fail
  refine (cell_zero b f _ (by rw [World.cell?_alloc_past _ _ _ hlt]; exact c51) hf).mono ?_
  rintro e w' ⟨rfl, nn, rfl⟩
  go_wp2
  refine bodyPost_ret (v := .agg #[.int .i64 k, .int .i64 n, .string s]) (by simp [results, Tryd.results43, go_sem]) rfl ?_
  have e1 : ((f : Int) + 1) % 16 = (((f + 1) % 16 : Nat) : Int) := by omega
  have e2 : (m : Int) - 1 = ((m - 1 : Nat) : Int) := by omega
  rw [e1, e2]
  exact ⟨rfl, (((((((((((HB.out.alloc _).drewN _).set (by omega) _).set (by omega) _).set (by omega) _).set (by omega) _).set (by omega) _).set_other (by omega) _).set_other (by omega) _).set_other (by omega) _).alloc _),
    ((((((((((((Fr.refl _ _).alloc _).drewN _).set (.inl (by simp)) _ _).set (.inl (by simp)) _ _).set (.inl (by simp)) _ _).set (.inl (by simp)) _ _).set (.inl (by simp)) _ _).set (.inr (Nat.le_refl _)) _ _).set (.inr (Nat.le_refl _)) _ _).set (.inr (Nat.le_refl _)) _ _).alloc _)⟩
end Go.Proofs.YtlibkhndekgnfaaDoor
