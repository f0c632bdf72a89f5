/- What Copy does. -/
import Derived.Deep.MidRow
import Derived.Deep.RegionHeld3
import Derived.Test.YtapbghkoijmjeaaClone
import Derived.Test.YtapbghkoijmjeaaNew
namespace Go.Proofs.Ytapbghkoijmjeaa
set_option linter.unusedVariables false
set_option linter.unusedSimpArgs false
open Go.RowKit Go.Shelf
/-- A ledger some of whose hands are empty. -/
def Ld.upto (t : Ld.T) (j : Nat) : Ld.T := ⟨t.time, t.es, fun k => if k < j then t.hs k else []⟩
def copyPost (w : World) (t : Ld.T) (e : Ending) (w' : World) : Prop := ∃ d own, e = .returned (ptr d) ∧ (∃ L, Rep w' own d L t) ∧ (∀ k r, own k = some r → w.heap.size ≤ k) ∧ Below w.heap.size w w'
theorem slice_form {w : World} {b sz n : Nat} {e : TypeId} {v : Value} {xs : List Value} (h : w.ownsRow b e sz v n xs) : ∃ p cap, v = .slice p n cap := by
  rcases h.2 with ⟨e1, e2⟩ | ⟨g, cap, cur, e1, _⟩
  · exact ⟨none, 0, by rw [e1, e2]⟩
  · exact ⟨some ⟨g, 0, none⟩, cap, e1⟩
theorem owns_base {w : World} {b sz n : Nat} {e : TypeId} {v : Value} {xs : List Value} (h : w.ownsRow b e sz v n xs) {b' : Nat} (hb : b' ≤ b) : w.ownsRow b' e sz v n xs :=
  ⟨h.1, h.2.imp id fun ⟨g, c, cur, a, i, d⟩ => ⟨g, c, cur, a, Nat.le_trans hb i, d⟩⟩
theorem upto_next (t : Ld.T) (j : Nat) : Ld.setH (Ld.upto t j) j (t.hs j) = Ld.upto t (j + 1) := by
  unfold Ld.setH Ld.upto
  simp only [Ld.T.mk.injEq, true_and]
  funext k
  by_cases h1 : k = j
  · subst h1; simp
  · by_cases h2 : k < j
    · rw [if_neg h1, if_pos h2, if_pos (by omega)]
    · rw [if_neg h1, if_neg h2, if_neg (by omega)]
theorem rep_upto {W : World} {own : Own} {d : Nat} {L : Lay} {t : Ld.T} (h : Rep W own d L (Ld.upto t 65)) : Rep W own d L t :=
  ⟨h.lt, h.mine, h.blk, h.evo, h.erow, h.hvo, fun i hi => by have := h.hrow i hi; simp only [Ld.upto, if_pos hi] at this; exact this⟩
theorem copy_step {W W1 : World} {own : Own} {d : Nat} {L : Lay} {t : Ld.T} {j : Nat} {v : Value} (hR : Rep W own d L (Ld.upto t j)) (hj : j < 65) (hb : Below W.heap.size W W1) (hrow : W1.ownsRow W.heap.size 3 1 v (t.hs j).length ((t.hs j).map natV)) :
    Rep (W1.setCell ⟨d, 2 + j, none⟩ v) (put own v.ownBlock (.hand j)) d (L.setH j v) (Ld.upto t (j + 1)) ∧ ∀ k r, put own v.ownBlock (.hand j) k = some r → own k = some r ∨ W.heap.size ≤ k := by
  have hd := hR.blk.lt
  have hB := (hR.blk.below hb hd).set (o := 2 + j) (by rw [ldC_len]; omega) v
  rw [ldC_setH L (Ld.upto t j) hj v (t.hs j)] at hB
  have hv : v.ownBlock = none ∨ v.ownBlock = (L.hv j).ownBlock ∨ ∃ g, v.ownBlock = some g ∧ W.heap.size ≤ g := by
    cases e : v.ownBlock with
    | none => exact .inl rfl
    | some g => exact .inr (.inr ⟨g, rfl, (hrow.lt g e).1⟩)
  have h1 := hR.turnH hj (v := v) (l := t.hs j) ((Fr.of_below hb).set (.inl (.inl rfl)) (2 + j) v) hB hv
    (owns_base (owns_fr hrow ((Fr.refl (fun k => k = d) W1).set (.inl rfl) (2 + j) v) (fun k e hk => by have := (hrow.lt k e).1; omega)) (Nat.zero_le _))
  rw [upto_next] at h1
  refine ⟨h1, fun k r e => ?_⟩
  unfold put at e
  split at e
  · rename_i h2
    exact .inr (hrow.lt k h2).1
  · exact .inl e
theorem copy_first {w w2 : World} {t : Ld.T} {pv : Option Addr} {cv : Nat} {Z : Array Value} (hZ : Z.toList = ldC ⟨.slice pv t.es.length cv, fun _ => .slice none 0 0⟩ (Ld.upto t 0)) (hb : Below w.heap.size w w2) {b : Nat} (hwb : w.heap.size ≤ b) (hrow : w2.ownsRow b 76 6 (.slice pv t.es.length cv) t.es.length (t.es.flatMap enC)) :
    ∃ own L, Rep (w2.alloc (.cells Z 63)) own w2.heap.size L (Ld.upto t 0) ∧ ∀ k r, own k = some r → w.heap.size ≤ k := by
  have hz := hb.size
  refine ⟨put (own0 w2.heap.size) (Value.slice pv t.es.length cv).ownBlock .ents, ⟨.slice pv t.es.length cv, fun _ => .slice none 0 0⟩, ⟨fun k r e => ?_, ?_, ?_, fun k e => ?_, ?_, ?_, fun i _ => World.ownsRow_nil _ _ _ _⟩, fun k r e => ?_⟩
  · unfold put own0 at e
    split at e
    · rename_i h2; have := (hrow.lt k h2).2; simp; omega
    · split at e
      · simp; omega
      · cases e
  · unfold put own0
    rw [if_neg (fun h2 => by have := (hrow.lt _ h2).2; omega), if_pos rfl]
  · rw [← hZ]; exact Blk.new w2 Z 63
  · unfold put; rw [if_pos e]
  · exact owns_base (hrow.alloc _) (Nat.zero_le _)
  · simp [Value.ownBlock]
  · unfold put own0 at e
    split at e
    · rename_i h2; have := (hrow.lt k h2).1; omega
    · split at e
      · omega
      · cases e
theorem run_ix (A : Array Value) (hA : A.size = 65) (j : Nat) (hj : j < 65) {v : Value} (hv : A[j]? = some v) (w : World) : (Instr.index 61 (.agg A) (.int .i64 (j : Int))).run Try.prog w = .ok (.agg #[v]) w := by
  have h1 : ((j : Int)) < 65 := by omega
  have h2 : A.extract j (j + 1) = #[v] := by
    have hj2 : j < A.size := by omega
    rw [Array.getElem?_eq_getElem hj2] at hv
    cases hv
    apply Array.ext
    · simp; omega
    · intro i hi1 hi2
      simp at hi2
      subst hi2
      simp
  simp [Instr.index, run_underlying Try.underlying61, asIntOf, part, Try.isAgg60, Try.sizeOf60, go_sem, h1, h2]
  intro h
  omega
set_option maxRecDepth 100000 in
set_option maxHeartbeats 4000000 in
theorem copy_any {w : World} {own : Own} {lb : Nat} {L : Lay} {t : Ld.T} (h : Rep w own lb L t) (hk : Ld.Ok t) : Calls Try.prog 23 #[ptr lb] w (copyPost w t) := by
  have HR := Lib.hid h
  have c0 : w.cell? ⟨lb, 0, none⟩ = some (.int .i64 (t.time : Int)) := h.blk.cell 0 _ rfl
  have c1 := h.blk.cell 1 _ rfl
  have hlt := h.blk.lt
  have CE := Lib.hid (fun W hW => clone_e W t.es (by have := hk.n400; omega) ((h.below hW).erow) : ∀ W, Below w.heap.size w W → Calls Try.prog 50 #[L.ev] W fun e w' => ∃ v', e = .returned v' ∧ w'.ownsRow W.heap.size 76 6 v' t.es.length (t.es.flatMap enC) ∧ Below W.heap.size W w')
  obtain ⟨A, hA⟩ : ∃ A : Array Value, A = ((List.range 65).map L.hv).toArray := ⟨_, rfl⟩
  have HA := Lib.hid hA
  have hAs : A.size = 65 := by rw [hA]; simp
  have HAS := Lib.hid hAs
  have LD : Hid (∀ W, Below w.heap.size w W → W.rangeAt lb 2 ((List.range 65).map L.hv)) := Lib.hid fun W hW j v hv => by
    have hj : j < 65 := by have := (List.getElem?_eq_some_iff.1 hv).1; simpa using this
    have h2 : L.hv j = v := by simpa [hj] using hv
    rw [← h2]
    exact cell_of hW (HR.out.hcell hj)
  have hn4 := hk.n400
  have KS : Hid (∀ W', Below w.heap.size w W' → W'.cell? ⟨lb, 0, none⟩ = some (.int .i64 (t.time : Int)) ∧ W'.cell? ⟨lb, 1, none⟩ = some L.ev) := Lib.hid fun W' hW => ⟨cell_of hW c0, cell_of hW c1⟩
  have B1 : Hid (Below w.heap.size w w.drew) := Lib.hid (below_drewN (Below.refl _ _) 1)
  clear h hA hAs
  go_enter Try.func23, Try.ntmps23
  go_wp2_with fail
  go_region_held3 (fun W' => W'.cell? ⟨lb, 0, none⟩ = some (.int .i64 (t.time : Int)) ∧ W'.cell? ⟨lb, 1, none⟩ = some L.ev)
    (first | exact KS.out _ B1.out | exact KS.out _ HB2.out | exact KS.out _ (HB2.out.alloc hle _) | go_keep)
    ((go_at_call 50; refine (CE.out _ B1.out).mono ?_; rintro e w2 ⟨v', rfl, hrow, hb⟩; have hb2 := B1.out.trans (hb.mono B1.out.size); obtain ⟨pv, cv, rfl⟩ := slice_form hrow; have HB2 := Lib.hid hb2; have HROW := Lib.hid hrow; have hl2 : lb < w2.heap.size := Nat.lt_of_lt_of_le hlt hb2.size; have hle : w.heap.size ≤ w2.heap.size := hb2.size; clear hrow hb hb2))
  all_goals (go_wp2_with (first | (with_reducible refine wpList_load_mid rfl 61 (.tmp 21) rfl lb 2 rfl ((List.range 65).map L.hv) _ (LD.out _ (HB2.out.alloc hle _)) Try.underlying61 rfl (by kernel_rfl) ?_; rw [← HA.out])))
  obtain ⟨Z, hZ⟩ : ∃ Z, Z = ((Try.zeroCells63.setIfInBounds 0 (.int .i64 (t.time : Int))).setIfInBounds 1 (.slice pv t.es.length cv)) := ⟨_, rfl⟩
  have hZl : Z.toList = ldC ⟨.slice pv t.es.length cv, fun _ => .slice none 0 0⟩ (Ld.upto t 0) := by rw [hZ]; rfl
  rw [← hZ]
  obtain ⟨own1, L1, hR1, hG1⟩ := copy_first hZl HB2.out (Nat.le_refl _) HROW.out
  have HR1 := Lib.hid hR1
  have HG1 := Lib.hid hG1
  clear hZ hZl hR1 hG1
  have HB3 : Hid (Below w.heap.size w (w2.alloc (.cells Z 63))) := Lib.hid (HB2.out.alloc hle _)
  obtain ⟨d, hd⟩ : ∃ d, d = w2.heap.size := ⟨_, rfl⟩
  have hdw : w.heap.size ≤ d := by omega
  rw [← hd] at HR1 ⊢
  clear hd HROW HB2 hle hl2
  generalize w2.alloc (.cells Z 63) = w3 at *
  go_loopw [23] (fun v wr => ∃ (j : Nat) (own : Own) (L2 : Lay), j ≤ 65 ∧ v = .int .i64 (j : Int) ∧ Hid (Rep wr own d L2 (Ld.upto t j)) ∧ Hid (∀ k r, own k = some r → w.heap.size ≤ k) ∧ Hid (Below w.heap.size w wr)) (fun v _ => 65 - (intOf v).toNat)
  case atStart => exact ⟨0, _, _, by omega, rfl, HR1, HG1, HB3⟩
  case round =>
    obtain ⟨j, own2, L2, hj, rfl, HRj, HGj, HBj⟩ := hrel
    clear HR1 HG1 HB3
    by_cases hj2 : j < 65
    · have j1 : (j : Int) < 65 := by omega
      have hix : ∀ w, (Instr.index 61 (.agg A) (.int .i64 (j : Int))).run Try.prog w = .ok (.agg #[L.hv j]) w := run_ix A HAS.out j hj2 (by rw [HA.out]; simp [hj2])
      have CH : Hid (∀ W, Below wr.heap.size wr W → Calls Try.prog 51 #[L.hv j] W fun e w' => ∃ v', e = .returned v' ∧ w'.ownsRow W.heap.size 3 1 v' (t.hs j).length ((t.hs j).map natV) ∧ Below W.heap.size W w') := Lib.hid fun W hW =>
        clone_h W (t.hs j) (by have := hk.n40 j; omega) ((HR.out.below (HBj.out.trans (hW.mono HBj.out.size))).hrow j hj2)
      obtain ⟨ph, ch, eh, -⟩ := HR.out.hform (k := j) hj2
      rw [eh] at hix CH
      have BX := Lib.hid (Blk.new wr #[.slice ph (t.hs j).length ch] 60)
      have KX : Hid (∀ W', Below (wr.heap.size + 1) (wr.alloc (.cells #[.slice ph (t.hs j).length ch] 60)) W' → W'.cell? ⟨wr.heap.size, 0, none⟩ = some (.slice ph (t.hs j).length ch)) := Lib.hid fun W' hW => (BX.out.below hW (by omega)).cell 0 _ rfl
      have B3 : Hid (Below (wr.heap.size + 1) (wr.alloc (.cells #[.slice ph (t.hs j).length ch] 60)) (wr.alloc (.cells #[.slice ph (t.hs j).length ch] 60)).drew) := Lib.hid (below_drewN (Below.refl _ _) 1)
      have B4 : Hid (Below wr.heap.size wr (wr.alloc (.cells #[.slice ph (t.hs j).length ch] 60)).drew) := Lib.hid (below_drewN (one _ _) 1)
      have hdlt : d < wr.heap.size := HRj.out.blk.lt
      have hne : d ≠ wr.heap.size := by omega
      have hne2 : wr.heap.size ≠ d := by omega
      clear eh
      go_wp2_with fail
      go_region_held3 (fun W' => W'.cell? ⟨wr.heap.size, 0, none⟩ = some (.slice ph (t.hs j).length ch))
        (first | exact KX.out _ B3.out | exact KX.out _ B5.out | go_keep)
        ((go_at_call 51; refine (CH.out _ B4.out).mono ?_; rintro e w5 ⟨v', rfl, hrow, hb⟩; have hb2 := B4.out.trans (hb.mono B4.out.size); obtain ⟨pv5, cv5, rfl⟩ := slice_form hrow; have B5 := Lib.hid (B3.out.trans (hb.mono (by simp))); have HB5 := Lib.hid hb2; have HROW := Lib.hid hrow; have hd5 := (HRj.out.blk.below hb2 HRj.out.blk.lt); have d1 := hd5.cell (2 + j) _ (ldC_hand L2 _ hj2); have d2 := hd5.fz (2 + j); have d3 := hd5.lt; have x5 := KX.out _ B5.out; clear hrow hb hb2 hd5))
      obtain ⟨hR6, hG6⟩ := copy_step HRj.out hj2 HB5.out (owns_base HROW.out (by simp))
      have HR6 := Lib.hid hR6
      have HG6 : Hid (∀ k r, put own2 (Value.slice pv5 (t.hs j).length cv5).ownBlock (.hand j) k = some r → w.heap.size ≤ k) := Lib.hid fun k r e => by
        rcases hG6 k r e with h1 | h1
        · exact HGj.out k r h1
        · exact Nat.le_trans HBj.out.size h1
      have HB6 : Hid (Below w.heap.size w (w5.setCell ⟨d, 2 + j, none⟩ (.slice pv5 (t.hs j).length cv5))) := Lib.hid ((HBj.out.trans (HB5.out.mono HBj.out.size)).setCell (p := ⟨d, 2 + j, none⟩) hdw _)
      clear hR6 hG6
      go_wp2
      go_roundw
      case rel => exact ⟨j + 1, _, _, by omega, by go_num, HR6, HG6, HB6⟩
      case measure => simp [intOf]; omega
    · obtain rfl : j = 65 := by omega
      go_wp2
      go_ret
      exact ⟨d, own2, rfl, ⟨L2, rep_upto HRj.out⟩, HGj.out, HBj.out⟩
end Go.Proofs.Ytapbghkoijmjeaa
