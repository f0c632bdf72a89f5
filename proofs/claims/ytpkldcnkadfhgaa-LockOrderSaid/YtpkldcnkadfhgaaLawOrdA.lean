/- LockOrder returns true. -/
import Derived.Test.YtpkldcnkadfhgaaOrdRel
namespace Go.Proofs.Ytpkldcnkadfhgaa
open Go.RowKit

set_option maxRecDepth 100000 in
set_option maxHeartbeats 8000000 in
theorem law_order_A (n : Int) (q : Option Addr) (cp : Nat) (L : List Op) (w : World) (hn1 : 1 ≤ n) (hn2 : n ≤ 16) (hL : OpsIn w q cp L) (h100 : 100 < L.length) :
    Calls Try.prog 6 #[.int .i64 n, .slice q L.length cp] w (still w (.bool true)) := by
  unfold still
  have HL := Lib.hid hL
  have hcp := hL.cap
  have hle := hL.le
  have hml : maxLen ≤ 9223372036854775807 := by unfold maxLen; omega
  have A9 := Lib.hid awake_any
  unfold still at A9
  clear hL
  go_enter Try.func6, Try.ntmps6
  go_wp2_with fail
  refine (new_any w).mono ?_
  rintro e w1 ⟨rfl, hT1, hB1⟩
  have H1 := Lib.hid (Om.new hT1 hB1)
  clear hT1 hB1
  have MK := Lib.hid (make_any _ _ Lk.new n w1 H1.out.tab)
  unfold makePost at MK
  have c1 : ¬ (n < 1 ∨ 16 < n) := by omega
  have c2 : ¬ (Lk.new.ls.length = 16) := by simp [Lk.new]
  simp only [if_neg c1, if_neg c2] at MK
  have e0 : (Lk.new.ls.length + 1 : Nat) = 1 := rfl
  rw [e0] at MK
  clear c1 c2 e0
  go_wp2_with fail
  refine MK.out.mono ?_
  rintro e w2 ⟨rfl, hG⟩
  have h2 : OrdIn w w.heap.size 0 (.slice none 0 0) (.slice none 0 0) w2 := by
    obtain ⟨bl2, h, -, -⟩ := H1.out.gone hG
    exact ⟨bl2, _, _, [], [], ⟨h, Line.nil _, Line.nil _, by simp [Value.ownBlock], by simp [Value.ownBlock], by simp [Value.ownBlock]⟩, rfl, Nat.le_refl _⟩
  have H2 := Lib.hid h2
  clear h2 hG MK H1
  have hbel : Below w.heap.size w w2 := by obtain ⟨bl, l, ws, A, G, hO, -⟩ := H2.out; exact hO.om.bel
  have HB2 := Lib.hid hbel
  have hs2 := hbel.size
  clear hbel
  go_wp2_with fail
  go_loopw [44, 8, 9] (fun vi vA vG wt => ∃ i : Nat, i ≤ 100 ∧ vi = .int .i64 i ∧ OrdIn w w.heap.size i vA vG wt) (fun vi _ _ _ => 100 - (intOf vi).toNat)
  case atStart => exact ⟨0, Nat.zero_le _, rfl, H2.out⟩
  case round =>
    obtain ⟨i, hin, rfl, bl, l, ws, A, G, hO, hA, hAl⟩ := hrel
    have hGl : G.length ≤ i := by have := congrArg List.length hA; simp at this; omega
    obtain ⟨pA, cA, rfl, -⟩ := hO.la.form
    obtain ⟨pG, cG, rfl, -⟩ := hO.lg.form
    have HO := Lib.hid hO
    have HA := Lib.hid hA
    have hzw := hO.om.bel.size
    obtain ⟨nA, hnA⟩ : ∃ nA, nA = A.length := ⟨_, rfl⟩
    obtain ⟨nG, hnG⟩ : ∃ nG, nG = G.length := ⟨_, rfl⟩
    rw [← hnA, ← hnG] at HO
    have hnA0 : nA ≤ i := by omega
    have hnG0 : nG ≤ i := by omega
    have hng : nG ≤ nA := by have := congrArg List.length hA; simp at this; omega
    rw [← hnA, ← hnG]
    have HnA := Lib.hid hnA
    have HnG := Lib.hid hnG
    clear hO hA H2 hnA hnG hAl hGl
    by_cases hlt : i < 100
    · obtain ⟨x, hx⟩ : ∃ x, L[i]? = some x := ⟨_, List.getElem?_eq_getElem (by omega)⟩
      obtain ⟨ab, ao, hq, hab, q0, q1, q2⟩ := HL.out.cells hx HO.out.om.bel
      obtain ⟨w0, w1', wp⟩ := HL.out.wf i x hx
      obtain ⟨kd, lk, p⟩ := x
      simp only at q0 q1 q2 wp
      subst hq
      have habr : ab < wr.heap.size := by omega
      have ii0 : (0 : Int) ≤ (i : Int) := by omega
      have HO0 := Lib.hid (HO.out.below (one wr (.cells #[.int .i64 kd, .int .i64 lk, .int .i64 p] 29)))
      have HO1 := HO
      clear hx w0 w1' HO
      by_cases hk : kd = 2
      · subst hk
        have FR := Lib.hid (ordFree_any w bl w.heap.size l ws _ _ A G p _ HO0.out HA.out)
        unfold ordFree at FR
        go_wp2_with fail
        refine FR.out.mono ?_
        rintro e w3 (⟨c, hc, rfl, bl3, l3, ws3, hO3, hA3⟩ | ⟨rfl, bl3, l3, ws3, hO3, hA3⟩ | ⟨y, hy, rfl, bl3, l3, ws3, hO3, hA3⟩)
        · have HR := Lib.hid (show OrdIn w w.heap.size (i + 1) (.slice pA nA cA) (.slice pG nG cG) w3 from ⟨bl3, l3, ws3, A, G, hO3, hA3, by have := HnA.out; omega⟩)
          have hc0 : (c == 0) = false := by simpa using hc
          clear hO3 hA3 FR
          go_wp2
          go_roundw
          case rel => exact ⟨i + 1, by omega, by go_num, HR.out⟩
          case measure => simp [intOf]; omega
        · have HR := Lib.hid (show OrdIn w w.heap.size (i + 1) (.slice pA nA cA) (.slice pG nG cG) w3 from ⟨bl3, l3, ws3, A, G, hO3, hA3, by have := HnA.out; omega⟩)
          clear hO3 hA3 FR
          go_wp2
          go_roundw
          case rel => exact ⟨i + 1, by omega, by go_num, HR.out⟩
          case measure => simp [intOf]; omega
        · have H3 := Lib.hid hO3
          have HA3 := Lib.hid hA3
          have HG3 := Lib.hid (hO3.lg.alloc (.cells #[.int .i64 y] 3))
          have HO4 := Lib.hid (hO3.below (one w3 (.cells #[.int .i64 y] 3)))
          have hy0 : y > 0 := hy
          clear hO3 hA3 FR
          go_wp2_with (at_builtin; refine wpList_line (w3.alloc (.cells #[.int .i64 y] 3)) (by rfl) (.tmp 84) (.tmp 86) (by rfl) (.slice pG nG cG) G (by rfl) HG3.out ⟨w3.heap.size, 0, none⟩ 1 y (by rfl) (by exact World.cell?_alloc_at _ _ _ _ rfl) (by have := HnG.out; omega) ?_; intro v5 w5 hL5 hG5 hA5; obtain ⟨p5, cp5, e5v, -⟩ := hL5.form; subst e5v; have HR := Lib.hid (show OrdIn w w.heap.size (i + 1) (.slice pA nA cA) (.slice p5 (G ++ [y]).length cp5) w5 from ⟨bl3, l3, ws3, A, G ++ [y], (HO4.out.swap.add hL5 hG5 hA5).swap, HA3.out, by have := HnA.out; omega⟩); obtain ⟨n5, hn5⟩ : ∃ n5, n5 = (G ++ [y]).length := ⟨_, rfl⟩; rw [← hn5] at HR; rw [← hn5]; clear hn5 hL5 hG5 hA5)
          go_roundw
          case rel => exact ⟨i + 1, by omega, by go_num, HR.out⟩
          case measure => simp [intOf]; omega
      · have hk2 : (kd != 2) = true := by simpa using hk
        have HD := Lib.hid (ordHold_any w bl w.heap.size l ws _ _ A G p _ HO0.out HA.out wp)
        unfold ordHold at HD
        have hnf : Hid (¬ Fp bl wr.heap.size) := Lib.hid fun ⟨r, e⟩ => by have := HO0.out.om.tab.lt e; have := HO1.out.om.tab.lt e; omega
        go_wp2_with fail
        refine HD.out.mono ?_
        rintro e w3 ⟨hkeep, hsz3, hcs⟩
        have c2 : w3.cell? ⟨wr.heap.size, 2, none⟩ = some (.int .i64 p) := hkeep _ _ _ hnf.out ((Blk.new wr #[.int .i64 kd, .int .i64 lk, .int .i64 p] 29).cell 2 (by simp))
        have hsz3' : wr.heap.size < w3.heap.size := by simp at hsz3; omega
        clear hkeep HD hsz3
        rcases hcs with ⟨c, hc, rfl, bl3, l3, ws3, hO3, hA3⟩ | ⟨rfl, bl3, l3, ws3, hO3, hA3⟩ | ⟨rfl, bl3, l3, ws3, hO3, hA3⟩
        · have HR := Lib.hid (show OrdIn w w.heap.size (i + 1) (.slice pA nA cA) (.slice pG nG cG) w3 from ⟨bl3, l3, ws3, A, G, hO3, hA3, by have := HnA.out; omega⟩)
          have hc0 : (c == 0) = false := by simpa using hc
          clear hO3 hA3
          go_wp2
          go_roundw
          case rel => exact ⟨i + 1, by omega, by go_num, HR.out⟩
          case measure => simp [intOf]; omega
        · have HA3 := Lib.hid hA3
          have HL3 := Lib.hid (hO3.la.alloc (.cells #[.int .i64 p] 3))
          have HO4 := Lib.hid (hO3.below (one w3 (.cells #[.int .i64 p] 3)))
          have HNB : Hid (∀ k, (Value.slice pA nA cA).ownBlock = some k → k ≠ wr.heap.size) := Lib.hid fun k e e' => by have := HO1.out.la.block k e; omega
          clear hO3 hA3
          go_wp2_with (first
            | (at_builtin; have _t := HL3; refine wpList_line (w3.alloc (.cells #[.int .i64 p] 3)) (by rfl) (.tmp 60) (.tmp 63) (by rfl) (.slice pA nA cA) A (by rfl) HL3.out ⟨w3.heap.size, 0, none⟩ 1 p (by rfl) (by exact World.cell?_alloc_at _ _ _ _ rfl) (by have := HnA.out; omega) ?_; intro v5 w5 hL5 hG5 hA5; have c5 : w5.cell? ⟨wr.heap.size, 2, none⟩ = some (.int .i64 p) := (hG5.cell (a := ⟨wr.heap.size, 2, none⟩) (by rw [World.cell?_alloc_past _ _ _ (by omega)]; exact c2) (fun e => HNB.out _ e.symm rfl)); obtain ⟨p5, cp5, e5v, -⟩ := hL5.form; subst e5v; have HO5 := Lib.hid (HO4.out.add hL5 hG5 hA5); obtain ⟨n5, hn5⟩ : ∃ n5, n5 = (A ++ [p]).length := ⟨_, rfl⟩; rw [← hn5] at HO5; rw [← hn5]; have HG5 := Lib.hid (HO5.out.lg.alloc (.cells #[.int .i64 p] 3)); have hw5 : wr.heap.size < w5.heap.size := (by have := hG5.size; simp at this; omega); clear hn5 hL5 hG5 hA5 HL3 c2)
            | (at_builtin; have _t := HG5; refine wpList_line (w5.alloc (.cells #[.int .i64 p] 3)) (by rfl) (.tmp 66) (.tmp 69) (by rfl) (.slice pG nG cG) G (by rfl) HG5.out ⟨w5.heap.size, 0, none⟩ 1 p (by rfl) (by exact World.cell?_alloc_at _ _ _ _ rfl) (by have := HnG.out; omega) ?_; intro v6 w6 hL6 hG6 hA6; obtain ⟨p6, cp6, e6v, -⟩ := hL6.form; subst e6v; have HR := Lib.hid (show OrdIn w w.heap.size (i + 1) (.slice p5 n5 cp5) (.slice p6 (G ++ [p]).length cp6) w6 from ⟨bl3, l3, ws3, A ++ [p], G ++ [p], ((HO5.out.below (one w5 (.cells #[.int .i64 p] 3))).swap.add hL6 hG6 hA6).swap, HA3.out, by have := HnA.out; simp; omega⟩); obtain ⟨n6, hn6⟩ : ∃ n6, n6 = (G ++ [p]).length := ⟨_, rfl⟩; rw [← hn6] at HR; rw [← hn6]; clear hn6 hL6 hG6 hA6 HG5))
          go_roundw
          case rel => exact ⟨i + 1, by omega, by go_num, HR.out⟩
          case measure => simp [intOf]; omega
        · have HA3 := Lib.hid hA3
          have HL3 := Lib.hid (hO3.la.alloc (.cells #[.int .i64 p] 3))
          have HO4 := Lib.hid (hO3.below (one w3 (.cells #[.int .i64 p] 3)))
          clear hO3 hA3
          go_wp2_with (at_builtin; have _t := HL3; refine wpList_line (w3.alloc (.cells #[.int .i64 p] 3)) (by rfl) (.tmp 60) (.tmp 63) (by rfl) (.slice pA nA cA) A (by rfl) HL3.out ⟨w3.heap.size, 0, none⟩ 1 p (by rfl) (by exact World.cell?_alloc_at _ _ _ _ rfl) (by have := HnA.out; omega) ?_; intro v5 w5 hL5 hG5 hA5; obtain ⟨p5, cp5, e5v, -⟩ := hL5.form; subst e5v; have HR := Lib.hid (show OrdIn w w.heap.size (i + 1) (.slice p5 (A ++ [p]).length cp5) (.slice pG nG cG) w5 from ⟨bl3, l3, ws3, A ++ [p], G, HO4.out.add hL5 hG5 hA5, HA3.out, by have := HnA.out; simp; omega⟩); obtain ⟨n5, hn5⟩ : ∃ n5, n5 = (A ++ [p]).length := ⟨_, rfl⟩; rw [← hn5] at HR; rw [← hn5]; clear hn5 hL5 hG5 hA5 HL3)
          go_roundw
          case rel => exact ⟨i + 1, by omega, by go_num, HR.out⟩
          case measure => simp [intOf]; omega
    · obtain rfl : i = 100 := by omega
      have HAG : Hid (G = A.take G.length) := Lib.hid (by rw [HA.out]; simp)
      have hngi : (nG : Int) ≤ (nA : Int) := by omega
      have EQ : Hid (∀ W, Below wr.heap.size wr W → Calls Try.prog 25 #[.slice pG nG cG, .slice pA nG cA] W (still W (.bool true))) := Lib.hid fun W hW => by
        have h := equal_lines (.slice pG nG cG) (.slice pA nA cA) pA cA nA G A W (HO.out.lg.below hW) (HO.out.la.below hW) rfl HAG.out (by have := HnG.out; omega)
        rw [← HnG.out] at h
        exact h
      unfold still at EQ
      have hcA : nA ≤ cA ∧ cA ≤ maxLen := by
        obtain ⟨p', c', e', h1, h2, -⟩ := HO.out.la.form
        rw [← HnA.out] at e' h1
        cases e'; exact ⟨h1, h2⟩
      have hcA1 := hcA.1
      have hcA2 := hcA.2
      go_wp2_with fail
      all_goals (refine (EQ.out _ (Below.refl _ _)).mono ?_; rintro e w6 ⟨rfl, hb6⟩; have HB6 := Lib.hid (HO.out.below hb6); clear hb6)
      all_goals (go_wp2_with fail)
      all_goals (refine (A9.out _).mono ?_; rintro e w7 ⟨rfl, hb7⟩; have HB7 := Lib.hid (HB6.out.below hb7).om.bel; clear hb7)
      all_goals (go_wp2; go_ret; exact ⟨rfl, HB7.out⟩)
end Go.Proofs.Ytpkldcnkadfhgaa
