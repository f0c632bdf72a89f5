/- What played does. -/
import Derived.Test.YtajccigefoddiaaPl2
namespace Go.Proofs.Ytajccigefoddiaa
set_option linter.unusedVariables false
set_option linter.unusedSimpArgs false
open Go.RowKit Go.Shelf
def lgPlays (s : St.T × List (Nat × Int)) (l : List Int) : St.T × List (Nat × Int) := l.foldl lgStep s
theorem lgPlays_snoc (s : St.T × List (Nat × Int)) (l : List Int) (x : Int) : lgPlays s (l ++ [x]) = lgStep (lgPlays s l) x := by unfold lgPlays; rw [List.foldl_append]; rfl
theorem lgStep_len (s : St.T × List (Nat × Int)) (x : Int) : (lgStep s x).2.length ≤ s.2.length + 1 := by
  unfold lgStep
  split
  · simp
  · simp
theorem lgPlays_len (s : St.T × List (Nat × Int)) (l : List Int) : (lgPlays s l).2.length ≤ s.2.length + l.length := by
  induction l generalizing s with
  | nil => exact Nat.le_refl _
  | cons x l ih =>
    have h1 := ih (lgStep s x)
    have h2 := lgStep_len s x
    show (lgPlays (lgStep s x) l).2.length ≤ _
    simp only [List.length_cons]
    omega
/-- The steps one after the other. -/
def tailL (k : Nat) : List Int := (List.range k).flatMap fun a : Nat => List.replicate 240 (a : Int)
theorem tailL_succ (k : Nat) : tailL (k + 1) = tailL k ++ List.replicate 240 (k : Int) := by
  unfold tailL; rw [List.range_succ, List.flatMap_append]; simp
theorem tailL_len (k : Nat) : (tailL k).length = k * 240 := by
  induction k with
  | zero => rfl
  | succ k ih => rw [tailL_succ, List.length_append, ih, List.length_replicate]; omega
section
variable {w wr W : World} {own : Own} {rb cb ab cap : Nat} {t : St.T}
def playedPost (w : World) (rb cb ab cap : Nat) (s : St.T × List (Nat × Int)) (e : Ending) (w' : World) : Prop :=
  ∃ own p c, e = .returned (.tuple #[.slice p s.2.length c, .bool s.1.over]) ∧ Rn w own rb cb ab cap s.1 w' ∧ w'.ownsRow w.heap.size 45 2 (.slice p s.2.length c) s.2.length (s.2.flatMap enL) ∧ ∀ k, (Value.slice p s.2.length c).ownBlock = some k → own k = some .other
theorem Rn.tag (h : Rn w own rb cb ab cap t wr) (o : Obj) : Rn w (put own (some wr.heap.size) .other) rb cb ab cap t (wr.alloc o) := by
  obtain ⟨vs, hR⟩ := h.ow.rep
  refine ⟨⟨⟨vs, hR.tag (one _ _) (Nat.le_refl _) (by simp)⟩, fun k r e => ?_, bAl h.ow.bel o⟩, h.inv⟩
  unfold put at e
  split at e
  · rename_i e2; injection e2 with e2; have := h.ow.bel.size; omega
  · exact h.ow.ge k r e
theorem pl_start (h : Rn w own rb cb ab cap t wr) (hg : ∀ a : Nat, a < 9 → t.gotOf (a : Int) = []) :
    ∃ own', Pl w ((((wr.alloc (.cells #[ptr rb] 25)).alloc (.cells #[.slice none 0 0] 42)).alloc (.cells #[.int .i64 0, .int .i64 0, .int .i64 0, .int .i64 0, .int .i64 0, .int .i64 0, .int .i64 0, .int .i64 0, .int .i64 0] 3)).alloc (.cells #[.slice (some ⟨wr.heap.size + 2, 0, none⟩) 9 9] 22)) own' rb cb ab cap t [] (fun _ => 0) wr.heap.size (wr.heap.size + 1) (wr.heap.size + 3) (wr.heap.size + 2) (.slice none 0 0) := by
  have h4 := (((h.tag (.cells #[ptr rb] 25)).tag (.cells #[.slice none 0 0] 42)).tag (.cells #[.int .i64 0, .int .i64 0, .int .i64 0, .int .i64 0, .int .i64 0, .int .i64 0, .int .i64 0, .int .i64 0, .int .i64 0] 3)).tag (.cells #[.slice (some ⟨wr.heap.size + 2, 0, none⟩) 9 9] 22)
  have b1 := Blk.new wr #[ptr rb] 25
  have b2 := Blk.new (wr.alloc (.cells #[ptr rb] 25)) #[.slice none 0 0] 42
  have b3 := Blk.new ((wr.alloc (.cells #[ptr rb] 25)).alloc (.cells #[.slice none 0 0] 42)) #[.int .i64 0, .int .i64 0, .int .i64 0, .int .i64 0, .int .i64 0, .int .i64 0, .int .i64 0, .int .i64 0, .int .i64 0] 3
  have b4 := Blk.new (((wr.alloc (.cells #[ptr rb] 25)).alloc (.cells #[.slice none 0 0] 42)).alloc (.cells #[.int .i64 0, .int .i64 0, .int .i64 0, .int .i64 0, .int .i64 0, .int .i64 0, .int .i64 0, .int .i64 0, .int .i64 0] 3)) #[.slice (some ⟨wr.heap.size + 2, 0, none⟩) 9 9] 22
  simp only [World.size_alloc] at b2 b3 b4 h4
  have hz := h.ow.bel.size
  refine ⟨_, h4, ((b1.alloc _).alloc _).alloc _, (b2.alloc _).alloc _, b4, b3.alloc _, World.ownsRow_nil _ _ _ _, ?_, ?_, ?_, ?_, fun k e => by simp [Value.ownBlock] at e, by omega, by omega, by omega, by omega, by omega, by omega, by omega⟩
  all_goals simp [put]
theorem run_make9 (W : World) : (Instr.makeSlice 22 (.int .i64 9) (.int .i64 9)).run Try.prog W = .ok (.slice (some ⟨W.heap.size, 0, none⟩) 9 9) (W.alloc (.cells #[.int .i64 0, .int .i64 0, .int .i64 0, .int .i64 0, .int .i64 0, .int .i64 0, .int .i64 0, .int .i64 0, .int .i64 0] 3)) := by
  obtain ⟨i0, hi, hz0, hz1, hz2⟩ := info_parts info3
  have h := run_make (P := Try.prog) W 22 3 i0 (.int .i64 0) Try.underlying22 hi hz0 .i64 .i64 9 9 (by omega) (by omega) (by rw [hz2]; omega) (by omega)
  rw [h]
  have e : madeCells (Value.int .i64 0).cells (Int.toNat 9 * i0.size) = #[.int .i64 0, .int .i64 0, .int .i64 0, .int .i64 0, .int .i64 0, .int .i64 0, .int .i64 0, .int .i64 0, .int .i64 0] := by
    rw [hz1]
    apply Array.ext'
    rw [show Int.toNat 9 * 1 = 9 from rfl, show (Value.int .i64 0).cells = #[.int .i64 0] from rfl, toList_madeCells_one]
    rfl
  rw [e]
  rfl
set_option maxRecDepth 100000 in
set_option maxHeartbeats 4000000 in
theorem played_any {ws : World} (h : Rn w own rb cb ab cap t ws) (hg : ∀ a : Nat, a < 9 → t.gotOf (a : Int) = []) (q : Option Addr) (cq : Nat) (lo : List Int) (hcl : lo.length ≤ cq) (hcm : cq ≤ maxLen) (hq : NumsAt w q lo) :
    Calls Try.prog 20 #[ptr rb, .slice q lo.length cq] ws (playedPost w rb cb ab cap (lgPlays (t, []) (lo.take 600 ++ tailL 9))) := by
  obtain ⟨own0, hP0⟩ := pl_start h hg
  have HP0 := Lib.hid hP0
  have HQ := Lib.hid hq
  have HG0 : Hid (∀ a : Nat, a < 9 → (0 : Nat) = (t.gotOf (a : Int)).length) := Lib.hid fun a ha => by rw [hg a ha]; rfl
  obtain ⟨n, hn⟩ : ∃ n, n = min lo.length 600 := ⟨_, rfl⟩
  have HN := Lib.hid hn
  have hn1 : (min (lo.length : Int) 600) = (n : Int) := by omega
  unfold maxLen at hcm
  obtain ⟨ln, hln⟩ : ∃ ln, ln = lo.length := ⟨_, rfl⟩
  have HLN := Lib.hid hln
  rw [← hln] at hn1 hcl ⊢
  have hnl : n ≤ ln := by omega
  have hn600 : n ≤ 600 := by omega
  have s1 : (0 : Int) ≤ (n : Int) := by omega
  have s2 : (n : Int) ≤ (cq : Int) := by omega
  have HMS := run_make9
  clear hP0 hq hg h hn hln
  go_enter Try.func20, Try.ntmps20
  go_wp2_with fail
  go_loopw [20] (fun i wr => ∃ (k : Nat) (own : Own) (hd : Nat → Nat) (ov : Value), k ≤ n ∧ i = .int .i64 (k : Int) ∧ Hid (Pl w wr own rb cb ab cap (lgPlays (t, []) (lo.take k)).1 (lgPlays (t, []) (lo.take k)).2 hd ws.heap.size (ws.heap.size + 1) (ws.heap.size + 3) (ws.heap.size + 2) ov) ∧ Hid (∀ a : Nat, a < 9 → hd a = ((lgPlays (t, []) (lo.take k)).1.gotOf (a : Int)).length)) (fun i _ => n - (intOf i).toNat)
  case atStart => exact ⟨0, own0, _, _, Nat.zero_le _, rfl, HP0, HG0⟩
  case round =>
    obtain ⟨k, own, hd, ov, hk, rfl, HP, HH⟩ := hrel
    clear HP0 HG0
    by_cases hlt : k < n
    · obtain ⟨x, hx⟩ : ∃ x, lo[k]? = some x := ⟨_, List.getElem?_eq_getElem (by have := HLN.out; omega)⟩
      obtain ⟨g, off, rfl, hg, hcell⟩ := HQ.out (by have := HLN.out; omega)
      have c0 := hcell k (by have := HLN.out; omega)
      rw [List.getD_eq_getElem?_getD, hx] at c0
      simp only [Option.getD_some] at c0
      have c1 := cell_of HP.out.rn.ow.bel c0
      have hgr := Nat.lt_of_lt_of_le hg HP.out.rn.ow.bel.size
      have j1 : (k : Int) < (n : Int) := by omega
      have hlen : (lgPlays (t, []) (lo.take k)).2.length ≤ 100000 := by have := lgPlays_len (t, []) (lo.take k); simp at this; omega
      have C := Lib.hid (step49_any HP.out HH.out hlen x)
      have HTK : Hid (lgPlays (t, []) (lo.take (k + 1)) = lgStep (lgPlays (t, []) (lo.take k)) x) := Lib.hid (by
        rw [List.take_add_one, hx, ← lgPlays_snoc]; rfl)
      unfold plPost at C
      clear hcell c0 hx hlen
      go_wp2_with fail
      refine C.out.mono ?_
      rintro e w2 ⟨rfl, own2, hd2, ov2, hP2, hh2⟩
      rw [← HTK.out] at hP2 hh2
      have HP2 := Lib.hid hP2
      have HH2 := Lib.hid hh2
      clear hP2 hh2 C
      go_wp2
      go_roundw
      case rel => exact ⟨k + 1, own2, hd2, ov2, by omega, by go_num, HP2, HH2⟩
      case measure => simp [intOf]; omega
    · obtain rfl : k = n := by omega
      have HTK : Hid (lo.take k = lo.take 600) := Lib.hid (by
        have h1 := HN.out
        have h2 := HLN.out
        by_cases h6 : lo.length ≤ 600
        · rw [List.take_of_length_le (by omega), List.take_of_length_le h6]
        · rw [show k = 600 by omega])
      rw [HTK.out] at HP HH
      obtain ⟨L0, hL0⟩ : ∃ L0, L0 = lo.take 600 := ⟨_, rfl⟩
      have hL0l : L0.length ≤ 600 := by rw [hL0, List.length_take]; omega
      rw [← hL0] at HP HH
      have HL0 := Lib.hid hL0
      have HP1 : Hid (Pl w wr own rb cb ab cap (lgPlays (t, []) (L0 ++ tailL 0)).1 (lgPlays (t, []) (L0 ++ tailL 0)).2 hd ws.heap.size (ws.heap.size + 1) (ws.heap.size + 3) (ws.heap.size + 2) ov) := Lib.hid (by simpa [tailL] using HP.out)
      have HH1 : Hid (∀ a : Nat, a < 9 → hd a = ((lgPlays (t, []) (L0 ++ tailL 0)).1.gotOf (a : Int)).length) := Lib.hid (by simpa [tailL] using HH.out)
      clear HP HH HTK hL0 hlt
      go_wp2_with fail
      go_loopw [28] (fun i wr => ∃ (k : Nat) (own : Own) (hd : Nat → Nat) (ov : Value), k ≤ 9 ∧ i = .int .i64 (k : Int) ∧ Hid (Pl w wr own rb cb ab cap (lgPlays (t, []) (L0 ++ tailL k)).1 (lgPlays (t, []) (L0 ++ tailL k)).2 hd ws.heap.size (ws.heap.size + 1) (ws.heap.size + 3) (ws.heap.size + 2) ov) ∧ Hid (∀ a : Nat, a < 9 → hd a = ((lgPlays (t, []) (L0 ++ tailL k)).1.gotOf (a : Int)).length)) (fun i _ => 9 - (intOf i).toNat)
      case atStart => exact ⟨0, own, hd, ov, by omega, rfl, HP1, HH1⟩
      case round =>
        obtain ⟨k2, own, hd, ov, hk2, rfl, HP, HH⟩ := hrel
        clear HP1 HH1
        by_cases hlt2 : k2 < 9
        · have j2 : (k2 : Int) < 9 := by omega
          have HP1 : Hid (Pl w wr own rb cb ab cap (lgPlays (t, []) (L0 ++ tailL k2 ++ List.replicate 0 (k2 : Int))).1 (lgPlays (t, []) (L0 ++ tailL k2 ++ List.replicate 0 (k2 : Int))).2 hd ws.heap.size (ws.heap.size + 1) (ws.heap.size + 3) (ws.heap.size + 2) ov) := Lib.hid (by simpa using HP.out)
          have HH1 : Hid (∀ a : Nat, a < 9 → hd a = ((lgPlays (t, []) (L0 ++ tailL k2 ++ List.replicate 0 (k2 : Int))).1.gotOf (a : Int)).length) := Lib.hid (by simpa using HH.out)
          clear HP HH
          go_wp2_with fail
          go_loopw [31] (fun i wr => ∃ (j : Nat) (own : Own) (hd : Nat → Nat) (ov : Value), j ≤ 240 ∧ i = .int .i64 (j : Int) ∧ Hid (Pl w wr own rb cb ab cap (lgPlays (t, []) (L0 ++ tailL k2 ++ List.replicate j (k2 : Int))).1 (lgPlays (t, []) (L0 ++ tailL k2 ++ List.replicate j (k2 : Int))).2 hd ws.heap.size (ws.heap.size + 1) (ws.heap.size + 3) (ws.heap.size + 2) ov) ∧ Hid (∀ a : Nat, a < 9 → hd a = ((lgPlays (t, []) (L0 ++ tailL k2 ++ List.replicate j (k2 : Int))).1.gotOf (a : Int)).length)) (fun i _ => 240 - (intOf i).toNat)
          case atStart => exact ⟨0, own, hd, ov, by omega, rfl, HP1, HH1⟩
          case round =>
            obtain ⟨j, own, hd, ov, hj, rfl, HP, HH⟩ := hrel
            clear HP1 HH1
            by_cases hlt3 : j < 240
            · have j3 : (j : Int) < 240 := by omega
              have hlen : (lgPlays (t, []) (L0 ++ tailL k2 ++ List.replicate j (k2 : Int))).2.length ≤ 100000 := by have := lgPlays_len (t, []) (L0 ++ tailL k2 ++ List.replicate j (k2 : Int)); simp only [List.length_append, List.length_replicate, tailL_len] at this; simp only [List.length_nil] at this; omega
              have C := Lib.hid (step49_any HP.out HH.out hlen (k2 : Int))
              have HTK : Hid (lgPlays (t, []) (L0 ++ tailL k2 ++ List.replicate (j + 1) (k2 : Int)) = lgStep (lgPlays (t, []) (L0 ++ tailL k2 ++ List.replicate j (k2 : Int))) (k2 : Int)) := Lib.hid (by
                rw [← lgPlays_snoc, List.replicate_succ', ← List.append_assoc])
              unfold plPost at C
              clear hlen
              go_wp2_with fail
              refine C.out.mono ?_
              rintro e w2 ⟨rfl, own2, hd2, ov2, hP2, hh2⟩
              rw [← HTK.out] at hP2 hh2
              have HP2 := Lib.hid hP2
              have HH2 := Lib.hid hh2
              clear hP2 hh2 C
              go_wp2
              go_roundw
              case rel => exact ⟨j + 1, own2, hd2, ov2, by omega, by go_num, HP2, HH2⟩
              case measure => simp [intOf]; omega
            · obtain rfl : j = 240 := by omega
              have HP3 : Hid (Pl w wr own rb cb ab cap (lgPlays (t, []) (L0 ++ tailL (k2 + 1))).1 (lgPlays (t, []) (L0 ++ tailL (k2 + 1))).2 hd ws.heap.size (ws.heap.size + 1) (ws.heap.size + 3) (ws.heap.size + 2) ov) := Lib.hid (by rw [tailL_succ, ← List.append_assoc]; exact HP.out)
              have HH3 : Hid (∀ a : Nat, a < 9 → hd a = ((lgPlays (t, []) (L0 ++ tailL (k2 + 1))).1.gotOf (a : Int)).length) := Lib.hid (by rw [tailL_succ, ← List.append_assoc]; exact HH.out)
              clear HP HH
              go_wp2_with fail
              exact ⟨⟨k2 + 1, own, hd, ov, by omega, by go_num, HP3, HH3⟩, by simp [intOf]; omega⟩
        · obtain rfl : k2 = 9 := by omega
          have OC : Hid (∀ W, Below wr.heap.size wr W → Calls Try.prog 27 #[ptr rb] W (still W (.bool (lgPlays (t, []) (L0 ++ tailL 9)).1.over))) := Lib.hid fun W hW => (HP.out.below hW).rn.overC
          unfold still at OC
          have x1 := HP.out.k1.cell 0 _ rfl
          have xl1 := HP.out.k1.lt
          have x6 := HP.out.k6.cell 0 _ rfl
          have xl6 := HP.out.k6.lt
          obtain ⟨op, oc, rfl⟩ := slice_form HP.out.row
          have B1 : Hid (Below wr.heap.size wr wr.drew) := Lib.hid (below_drewN (Below.refl _ _) 1)
          have HFIN : Hid (∀ W, Below wr.heap.size wr W → playedPost w rb cb ab cap (lgPlays (t, []) (lo.take 600 ++ tailL 9)) (.returned (.tuple #[.slice op (lgPlays (t, []) (L0 ++ tailL 9)).2.length oc, .bool (lgPlays (t, []) (L0 ++ tailL 9)).1.over])) W) := Lib.hid fun W hW => by
            rw [← HL0.out]
            have h := HP.out.below hW
            exact ⟨own, op, oc, rfl, h.rn, h.row, fun k e => (h.oo k e).1⟩
          generalize (lgPlays (t, []) (L0 ++ tailL 9)).2.length = ll at *
          generalize (lgPlays (t, []) (L0 ++ tailL 9)).1.over = ovr at *
          clear HP HH
          go_wp2_with fail
          have KS : Hid (∀ W, Below wr.heap.size wr W → (W.cell? ⟨ws.heap.size, 0, none⟩ = some (ptr rb) ∧ W.cell? ⟨ws.heap.size + 1, 0, none⟩ = some (.slice op ll oc))) := Lib.hid fun W hW => ⟨(hW.cell (p := ⟨ws.heap.size, 0, none⟩) xl1).trans x1, (hW.cell (p := ⟨ws.heap.size + 1, 0, none⟩) xl6).trans x6⟩
          have WB : Hid (Below wr.heap.size wr wr) := Lib.hid (Below.refl _ _)
          go_region_held3 (fun W' => W'.cell? ⟨ws.heap.size, 0, none⟩ = some (ptr rb) ∧ W'.cell? ⟨ws.heap.size + 1, 0, none⟩ = some (.slice op ll oc))
            (first | exact KS.out _ (by repeat (first | exact WB.out | exact B2.out | (with_reducible refine bDr ?_))) | go_keep)
            ((go_at_call 27; refine (OC.out _ (by repeat (first | exact WB.out | (with_reducible refine bDr ?_)))).mono ?_; rintro e w2 ⟨rfl, hb⟩; have B2 := Lib.hid (((by repeat (first | exact WB.out | (with_reducible refine bDr ?_)) : Below wr.heap.size wr _)).trans (hb.mono (by first | exact (by repeat (first | exact WB.out | (with_reducible refine bDr ?_)) : Below wr.heap.size wr _).size | exact WB.out.size))); clear hb))
          all_goals go_wp2
          all_goals go_ret2
          all_goals exact HFIN.out _ (by repeat (first | exact B2.out | exact WB.out | (with_reducible refine bDr ?_)))
end
end Go.Proofs.Ytajccigefoddiaa
