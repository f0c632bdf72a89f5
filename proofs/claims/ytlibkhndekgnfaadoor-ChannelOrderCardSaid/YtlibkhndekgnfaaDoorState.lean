/- What State returns. -/
import Derived.Test.YtlibkhndekgnfaaDoorRingAll
import Derived.Test.YtlibkhndekgnfaaDoorSame
namespace Go.Proofs.YtlibkhndekgnfaaDoor
open Go.RowKit Go.Shelf

theorem RowAt.weaken {α : Type} {f : α → List Value} {sz : Nat} {t : TypeId} {W : World} {base base' : Nat} {v : Value} {l : List α} (h : RowAt f sz t W base v l) (hb : base' ≤ base) : RowAt f sz t W base' v l := by
  refine ⟨h.1, ?_⟩
  rcases h.2 with h0 | ⟨g, cap, cur, e, hbg, r⟩
  · exact .inl h0
  · exact .inr ⟨g, cap, cur, e, Nat.le_trans hb hbg, r⟩

def colPost {α : Type} (f : α → List Value) (sz : Nat) (t : TypeId) (w : World) (xs : List α) (e : Ending) (w' : World) : Prop := ∃ v, e = .returned v ∧ RowAt f sz t w' w.heap.size v xs ∧ Below w.heap.size w w'

theorem collectV_any (Bn b f : Nat) (g : Nat → Value) (ns : List Nat) (c : Cn.St) (w : World) (hg : Fits g f ns c) (hBl : Bn < w.heap.size) (hc : w.cell? ⟨Bn, 0, none⟩ = some (.pointer (some ⟨b, 3, none⟩))) (hblk : Blk w b 55 g) :
    Calls Tryd.prog 28 #[.func (.func 50) #[] #[.pointer (some ⟨Bn, 0, none⟩)]] w (colPost vCells 3 37 w c.buf) := by
  have A := (callsIn_wide (n := 4)).1 (appendV_in 4 (by omega) 50 #[.pointer (some ⟨Bn, 0, none⟩)] _ Tryd.func50 (enters_of Tryd.func50 (by kernel_rfl) rfl) c.buf (by have := hg.len; have := hg.cap; omega) w (fun W hW =>
    rall_stops 3 (by omega) Bn w.heap.size b f g ns c hg hblk.lt hBl W hW.size ((hW.cell (p := ⟨Bn, 0, none⟩) hBl).trans hc) (hblk.below hW hblk.lt)))
  have HA := Lib.hid A
  clear A
  go_enter Tryd.func28, Tryd.ntmps28
  go_wp2_with fail
  refine HA.out.mono ?_
  rintro e w' ⟨v, rfl, hv, hb⟩
  have HV := Lib.hid hv
  have HB := Lib.hid hb
  clear hv hb
  go_wp2
  go_ret
  exact ⟨v, rfl, HV.out, HB.out⟩

theorem collectW_any (Bn b : Nat) (ns : List Nat) (ws : List Cn.Wt) (w : World) (hnd : ns.Nodup) (hl : ws.length ≤ 1000) (hb : b < w.heap.size) (hBl : Bn < w.heap.size) (hc : w.cell? ⟨Bn, 0, none⟩ = some (.pointer (some ⟨b, 53, none⟩))) (hp : w.cell? ⟨b, 53, none⟩ = some (.pointer (ptrAt ns 0))) (hch : Chain w ns ws) :
    Calls Tryd.prog 30 #[.func (.func 53) #[] #[.pointer (some ⟨Bn, 0, none⟩)]] w (colPost wCells 5 59 w ws) := by
  have A := (callsIn_wide (n := 4)).1 (appendW_in 4 (by omega) 53 #[.pointer (some ⟨Bn, 0, none⟩)] _ Tryd.func53 (enters_of Tryd.func53 (by kernel_rfl) rfl) ws hl w (fun W hW =>
    qall_stops Fence.wide 3 trivial rfl (by omega) Bn w.heap.size b ns ws hnd hch.lt hb W (Nat.lt_of_lt_of_le hBl hW.size) hW.size ((hW.cell (p := ⟨Bn, 0, none⟩) hBl).trans hc) ((hW.cell (p := ⟨b, 53, none⟩) hb).trans hp) (hch.belowN hW hch.lt)))
  have HA := Lib.hid A
  clear A
  go_enter Tryd.func30, Tryd.ntmps30
  go_wp2_with fail
  refine HA.out.mono ?_
  rintro e w' ⟨v, rfl, hv, hb⟩
  have HV := Lib.hid hv
  have HB := Lib.hid hb
  clear hv hb
  go_wp2
  go_ret
  exact ⟨v, rfl, HV.out, HB.out⟩

theorem ringall_any (b : Nat) (w : World) : Calls Tryd.prog 29 #[.pointer (some ⟨b, 3, none⟩)] w fun e w' => e = .returned (.func (.func 50) #[] #[.pointer (some ⟨w.heap.size, 0, none⟩)]) ∧ w' = w.alloc (.cells #[.pointer (some ⟨b, 3, none⟩)] 108) :=
  (callsIn_wide (n := 3)).1 (ringall_in Fence.wide 3 trivial rfl b w)
theorem qall_any (b : Nat) (w : World) : Calls Tryd.prog 31 #[.pointer (some ⟨b, 53, none⟩)] w fun e w' => e = .returned (.func (.func 53) #[] #[.pointer (some ⟨w.heap.size, 0, none⟩)]) ∧ w' = w.alloc (.cells #[.pointer (some ⟨b, 53, none⟩)] 112) :=
  (callsIn_wide (n := 3)).1 (qall_in Fence.wide 3 trivial rfl b w)

/-- The two collections, in the world of a channel. -/
theorem colV_rep {b : Nat} {ns : List Nat} {c : Cn.St} {w : World} (h : Rep w b ns c) {w1 : World} (hb : Below w.heap.size w w1) {Bn : Nat} (hBl : Bn < w1.heap.size) (hc : w1.cell? ⟨Bn, 0, none⟩ = some (.pointer (some ⟨b, 3, none⟩))) :
    Calls Tryd.prog 28 #[.func (.func 50) #[] #[.pointer (some ⟨Bn, 0, none⟩)]] w1 (colPost vCells 3 37 w1 c.buf) := by
  obtain ⟨g, f, hbk, hg⟩ := (h.below hb).ex
  exact collectV_any Bn b f g ns c w1 hg hBl hc hbk
theorem colW_rep {b : Nat} {ns : List Nat} {c : Cn.St} {w : World} (h : Rep w b ns c) (hl : c.wait.length ≤ 1000) {w1 : World} (hb : Below w.heap.size w w1) {Bn : Nat} (hBl : Bn < w1.heap.size) (hc : w1.cell? ⟨Bn, 0, none⟩ = some (.pointer (some ⟨b, 53, none⟩))) :
    Calls Tryd.prog 30 #[.func (.func 53) #[] #[.pointer (some ⟨Bn, 0, none⟩)]] w1 (colPost wCells 5 59 w1 c.wait) := by
  have h1 := h.below hb
  obtain ⟨g, f, hbk, hg⟩ := h1.ex
  exact collectW_any Bn b ns c.wait w1 (List.nodup_cons.1 h.nd).2 hl hbk.lt hBl hc (by rw [hbk.cell 53 (by omega), hg.g53]) h1.chain

def statePost (w : World) (c : Cn.St) (e : Ending) (w' : World) : Prop :=
  ∃ bv wv, e = .returned (stateV c.cap c.pol c.closed bv wv c.dropped) ∧ VsAt w' w.heap.size bv c.buf ∧ WsAt w' w.heap.size wv c.wait ∧ Below w.heap.size w w'

set_option maxRecDepth 100000 in
set_option maxHeartbeats 8000000 in
theorem state_any (b : Nat) (ns : List Nat) (c : Cn.St) (w : World) (h : Rep w b ns c) (hl : c.wait.length ≤ 1000) :
    Calls Tryd.prog 14 #[.pointer (some ⟨b, 0, none⟩)] w (statePost w c) := by
  obtain ⟨c0, c1, c2, c52, c54, hfz, hlt, -⟩ := h.cells
  have H := Lib.hid h
  have HL := Lib.hid hl
  have HS : Hid (∀ W', Below w.heap.size w W' → W'.cell? ⟨b, 0, none⟩ = some (.int .i64 c.cap) ∧ W'.cell? ⟨b, 1, none⟩ = some (.int .i64 c.pol) ∧ W'.cell? ⟨b, 2, none⟩ = some (.bool c.closed) ∧ W'.cell? ⟨b, 54, none⟩ = some (.int .i64 c.dropped)) :=
    Lib.hid fun W' hb => ⟨cell_of hb c0, cell_of hb c1, cell_of hb c2, cell_of hb c54⟩
  have hne : b ≠ w.heap.size := by omega
  have HRB := Lib.hid (Blk.new w #[.int .i64 0, .int .i64 0, .bool false, .slice none 0 0, .slice none 0 0, .int .i64 0] 30)
  clear hfz h hl c52
  go_enter Tryd.func14, Tryd.ntmps14
  go_wp2_with fail
  go_region_held3 (fun w' => w'.cell? ⟨b, 0, none⟩ = some (.int .i64 c.cap) ∧ w'.cell? ⟨b, 1, none⟩ = some (.int .i64 c.pol) ∧ w'.cell? ⟨b, 2, none⟩ = some (.bool c.closed) ∧ w'.cell? ⟨b, 54, none⟩ = some (.int .i64 c.dropped))
    (first | go_keep | (refine HS.out _ ?_; repeat (first | with_reducible exact hB4 | with_reducible exact hB2 | with_reducible refine Below.setCell ?_ (by simp) _ | with_reducible exact one _ _ | with_reducible refine below_drewN ?_ _ | with_reducible refine Below.drew ?_ | with_reducible refine Below.alloc ?_ (by first | omega | (simp; done) | (simp; omega)) _)))
    (first
      | (go_at_call 29; refine (ringall_any b _).mono ?_; rintro e w1 ⟨rfl, rfl⟩)
      | (go_at_call 28; refine (colV_rep H.out (by repeat (first | with_reducible exact hB4 | with_reducible exact hB2 | with_reducible refine Below.setCell ?_ (by simp) _ | with_reducible exact one _ _ | with_reducible refine below_drewN ?_ _ | with_reducible refine Below.drew ?_ | with_reducible refine Below.alloc ?_ (by first | omega | (simp; done) | (simp; omega)) _)) (by simp) (by simp)).mono ?_; rintro e w2 ⟨v2, he2, hv2, hb2⟩; obtain ⟨p2, k2, rfl, -⟩ := hv2.form2; obtain rfl := he2; have hz2 := hb2.size; simp at hz2; have hB2 : Below w.heap.size w w2 := Below.trans (b := _) (by repeat (first | with_reducible exact hB4 | with_reducible exact hB2 | with_reducible refine Below.setCell ?_ (by simp) _ | with_reducible exact one _ _ | with_reducible refine below_drewN ?_ _ | with_reducible refine Below.drew ?_ | with_reducible refine Below.alloc ?_ (by first | omega | (simp; done) | (simp; omega)) _)) (hb2.mono (by simp; omega)); have hC2 : Below (w.heap.size + 1) (w.alloc (.cells #[.int .i64 0, .int .i64 0, .bool false, .slice none 0 0, .slice none 0 0, .int .i64 0] 30)) w2 := Below.trans (b := _) (by repeat (first | with_reducible exact hC2 | with_reducible exact Below.refl _ _ | with_reducible refine below_drewN ?_ _ | with_reducible refine Below.drew ?_ | with_reducible refine Below.alloc ?_ (by first | omega | (simp; done) | (simp; omega)) _)) (hb2.mono (by first | omega | (simp; done) | (simp; omega))))
      | (go_at_call 31; refine (qall_any b _).mono ?_; rintro e w3 ⟨rfl, rfl⟩)
      | (go_at_call 30; refine (colW_rep H.out HL.out (by repeat (first | with_reducible exact hB4 | with_reducible exact hB2 | with_reducible refine Below.setCell ?_ (by simp) _ | with_reducible exact one _ _ | with_reducible refine below_drewN ?_ _ | with_reducible refine Below.drew ?_ | with_reducible refine Below.alloc ?_ (by first | omega | (simp; done) | (simp; omega)) _)) (by simp) (by simp)).mono ?_; rintro e w4 ⟨v4, he4, hv4, hb4⟩; obtain ⟨p4, k4, rfl, -⟩ := hv4.form2; obtain rfl := he4; have hz4 := hb4.size; simp at hz4; have hB4 : Below w.heap.size w w4 := Below.trans (b := _) (by repeat (first | with_reducible exact hB4 | with_reducible exact hB2 | with_reducible refine Below.setCell ?_ (by simp) _ | with_reducible exact one _ _ | with_reducible refine below_drewN ?_ _ | with_reducible refine Below.drew ?_ | with_reducible refine Below.alloc ?_ (by first | omega | (simp; done) | (simp; omega)) _)) (hb4.mono (by simp; omega)); have hC4 : Below (w.heap.size + 1) (w.alloc (.cells #[.int .i64 0, .int .i64 0, .bool false, .slice none 0 0, .slice none 0 0, .int .i64 0] 30)) w4 := Below.trans (b := _) (by repeat (first | with_reducible exact hC2 | with_reducible exact Below.refl _ _ | with_reducible refine below_drewN ?_ _ | with_reducible refine Below.drew ?_ | with_reducible refine Below.alloc ?_ (by first | omega | (simp; done) | (simp; omega)) _)) (hb4.mono (by first | omega | (simp; done) | (simp; omega))); have bR := HRB.out.below hC4 (by omega); have r0 := bR.cell 0 (by simp); have r1 := bR.cell 1 (by simp); have r2 := bR.cell 2 (by simp); have r3 := bR.cell 3 (by simp); have r4 := bR.cell 4 (by simp); have r5 := bR.cell 5 (by simp); have z0 := bR.fz 0; have z1 := bR.fz 1; have z2 := bR.fz 2; have z3 := bR.fz 3; have z4 := bR.fz 4; have z5 := bR.fz 5; have hzr := bR.lt; clear bR))
  all_goals have HB4 := Lib.hid hB4
  all_goals have HV2 := Lib.hid (((hv2.below (one w2 (.cells #[.pointer (some ⟨b, 53, none⟩)] 112))).below hb4).weaken (base' := w.heap.size + 1) (by simp))
  all_goals have HV4 := Lib.hid (hv4.weaken (base' := w.heap.size + 1) (by simp; omega))
  all_goals clear hv2 hv4 hb4 hB4
  all_goals go_wp2
  all_goals refine bodyPost_ret (v := stateV c.cap c.pol c.closed (.slice p2 c.buf.length k2) (.slice p4 c.wait.length k4) c.dropped) (by simp [results, Tryd.results14, go_sem, r0, r1, r2, r3, r4, r5]) rfl ?_
  all_goals refine ⟨_, _, rfl, ?_, ?_, ?_⟩
  · exact ((HV2.out.fr (L := [w.heap.size]) (by repeat (first | with_reducible exact Fr.refl _ _ | with_reducible refine Fr.set ?_ (by simp) _ _)) (fun k hk => by have := HV2.out.block k hk; simp; omega))).weaken (by omega)
  · exact ((HV4.out.fr (L := [w.heap.size]) (by repeat (first | with_reducible exact Fr.refl _ _ | with_reducible refine Fr.set ?_ (by simp) _ _)) (fun k hk => by have := HV4.out.block k hk; simp; omega))).weaken (by omega)
  · repeat (first | with_reducible exact HB4.out | with_reducible refine Below.setCell ?_ (by simp) _)
end Go.Proofs.YtlibkhndekgnfaaDoor
