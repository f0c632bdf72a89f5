/- StealStack. -/
import Derived.Test.YtajccigefoddiaaStkMem
namespace Go.Proofs.Ytajccigefoddiaa
set_option linter.unusedVariables false
set_option linter.unusedSimpArgs false
open Go.RowKit Go.Shelf
open St
def stk (room : Nat) (l : List Int) (k : Nat) : List Int × List Int := (l.take k).foldl (stkStep room) ([], [])
theorem stk_succ (room : Nat) (l : List Int) (k : Nat) (x : Int) (h : l[k]? = some x) : stk room l (k + 1) = stkStep room (stk room l k) x := by
  unfold stk
  rw [List.take_add_one, h, List.foldl_append]
  rfl
theorem stk_len (room : Nat) (l : List Int) (k : Nat) : (stk room l k).1.length ≤ k ∧ (stk room l k).2.length ≤ k := by
  induction k with
  | zero => exact ⟨Nat.le_refl _, Nat.le_refl _⟩
  | succ k ih =>
    cases h : l[k]? with
    | none =>
      have : stk room l (k + 1) = stk room l k := by unfold stk; rw [List.take_add_one, h]; simp
      rw [this]; omega
    | some x =>
      rw [stk_succ room l k x h]
      unfold stkStep
      split
      · split
        · simp; omega
        · simp; omega
      · split
        · simp; omega
        · simp; omega
theorem stk_full {room : Nat} {l : List Int} {k : Nat} {x : Int} (h : l[k]? = some x) (h0 : 0 < x) (h1 : (stk room l k).1.length = room) : stk room l (k + 1) = ((stk room l k).1, (stk room l k).2 ++ [-1]) := by
  rw [stk_succ room l k x h]; unfold stkStep; rw [if_pos h0, if_pos h1]
theorem stk_push {room : Nat} {l : List Int} {k : Nat} {x : Int} (h : l[k]? = some x) (h0 : 0 < x) (h1 : ¬ (stk room l k).1.length = room) : stk room l (k + 1) = ((stk room l k).1 ++ [x], (stk room l k).2 ++ [x]) := by
  rw [stk_succ room l k x h]; unfold stkStep; rw [if_pos h0, if_neg h1]
theorem stk_none {room : Nat} {l : List Int} {k : Nat} {x : Int} (h : l[k]? = some x) (h0 : ¬ 0 < x) (h1 : (stk room l k).1 = []) : stk room l (k + 1) = ([], (stk room l k).2 ++ [0]) := by
  rw [stk_succ room l k x h]; unfold stkStep; rw [if_neg h0, h1]; rfl
theorem stk_pop {room : Nat} {l : List Int} {k : Nat} {x y : Int} {S : List Int} (h : l[k]? = some x) (h0 : ¬ 0 < x) (h1 : (stk room l k).1 = S ++ [y]) : stk room l (k + 1) = (S, (stk room l k).2 ++ [y]) := by
  rw [stk_succ room l k x h]; unfold stkStep; rw [if_neg h0, h1]; simp
def SkRel (w2 : World) (room : Nat) (l : List Int) (kn : Nat) (s v i : Value) (wr : World) : Prop := ∃ (k : Nat), k ≤ kn ∧ i = .int .i64 (k : Int) ∧ Sk w2 (stk room l k).1 (stk room l k).2 s v wr
theorem SkRel.of {w2 W : World} {room : Nat} {l : List Int} {kn k : Nat} {s v : Value} {S R : List Int} (h : Sk w2 S R s v W) (e : stk room l (k + 1) = (S, R)) (hk : k + 1 ≤ kn) {z : Int} (hz : z = ((k + 1 : Nat) : Int)) : SkRel w2 room l kn s v (.int .i64 z) W := by
  subst hz
  exact ⟨k + 1, hk, rfl, by rw [e]; exact h⟩
set_option maxRecDepth 100000 in
set_option maxHeartbeats 4000000 in
theorem stk_core (w : World) (r : Int) (p : Option Addr) (n cp kn : Nat) (l : List Int) (hkn : Hid (l.length = kn)) (hk62 : kn ≤ 62)
    (C : Hid (∀ W, Below w.heap.size w W → Calls Try.prog 13 #[.agg #[.int .i64 r, .slice p n cp, .slice none 0 0]] W fun e w' => ∃ p' q' cp' cq', e = .returned (.agg #[.int .i64 r, .slice p' kn cp', .slice q' 0 cq']) ∧ PlanIn w' r p' q' cp' cq' l [] ∧ Below W.heap.size W w'))
    (M : Hid (∀ W p' q' cp' cq', Below w.heap.size w W → PlanIn W r p' q' cp' cq' l [] → Calls Try.prog 12 #[.agg #[.int .i64 r, .slice p' kn cp', .slice q' 0 cq']] W fun e w' => (e = .returned (.tuple #[.pointer none, .int .i64 2]) ∧ Below W.heap.size W w') ∨ ∃ rb, e = .returned (.tuple #[ptr rb, .int .i64 0]) ∧ 0 ≤ r ∧ Below W.heap.size W w' ∧ Calls Try.prog 20 #[ptr rb, .slice none 0 0] w' fun e w'' => Below W.heap.size W w'' ∧ ∃ pp nn cc, e = .returned (.tuple #[.slice pp nn cc, .bool true]) ∧ ∀ W', Below w''.heap.size w'' W' → Calls Try.prog 24 #[ptr rb, .int .i64 0] W' (numsPost W' (stk r.toNat l kn).2) ∧ Calls Try.prog 21 #[ptr rb] W' (numsPost W' (stk r.toNat l kn).1))) :
    Calls Try.prog 6 #[.int .i64 r, .slice p n cp] w fun e w' => e = .returned (.bool true) ∧ Below w.heap.size w w' := by
  have AW := Lib.hid awake_any
  obtain ⟨i0, hi, hz0, hz1, hz2⟩ := info_parts info3
  have HI := Lib.hid hi; have HZ0 := Lib.hid hz0; have HZ1 := Lib.hid hz1; have HZ2 := Lib.hid hz2
  clear hi hz0 hz1 hz2
  unfold still at AW
  have C1 := Lib.hid (C.out w (Below.refl _ _))
  go_enter Try.func6, Try.ntmps6
  go_wp2_with fail
  refine C1.out.mono ?_
  rintro e w1 ⟨p', q', cp', cq', rfl, hP, hb⟩
  have HP := Lib.hid hP
  have HB := Lib.hid hb
  clear hP hb C1 C
  have HBL := Lib.hid (Blk.new w1 #[.int .i64 r, .slice p' kn cp', .slice q' 0 cq'] 24)
  have HB1 : Hid (Below w.heap.size w (w1.alloc (.cells #[.int .i64 r, .slice p' kn cp', .slice q' 0 cq'] 24))) := Lib.hid (HB.out.trans ((one _ _).mono HB.out.size))
  have HN1 : Hid (NumsAt (w1.alloc (.cells #[.int .i64 r, .slice p' kn cp', .slice q' 0 cq'] 24)) p' l) := Lib.hid (HP.out.n1.below (one _ _))
  have M1 := Lib.hid (M.out _ p' q' cp' cq' HB1.out (HP.out.below (one _ _)))
  clear M HP
  go_wp2_with fail
  refine M1.out.mono ?_
  rintro e w3 (⟨rfl, hb⟩ | ⟨rb, rfl, hr0, hb, hC⟩)
  · have HB := Lib.hid (HB1.out.trans (hb.mono HB1.out.size))
    clear hb M1
    go_wp2_with fail
    refine (AW.out _).mono ?_
    rintro e w4 ⟨rfl, hb⟩
    have HB2 := Lib.hid (HB.out.trans (hb.mono HB.out.size))
    clear hb
    go_wp2
    go_ret
    exact ⟨rfl, HB2.out⟩
  · have C2 := Lib.hid hC
    clear hC hb M1
    go_wp2_with fail
    refine C2.out.mono ?_
    rintro e w2 ⟨hb, pp, nn, cc, rfl, hgr⟩
    have HG := Lib.hid hgr
    have HBL2 := Lib.hid (HBL.out.below hb HBL.out.lt)
    have HN2 := Lib.hid (HN1.out.below hb)
    have HB2 := Lib.hid (HB1.out.trans (hb.mono HB1.out.size))
    have y0 := HBL2.out.cell 0 _ rfl
    have y1 := HBL2.out.cell 1 _ rfl
    have hbl := HBL2.out.lt
    clear hgr hb C2
    obtain ⟨room, hroom⟩ : ∃ n, n = r.toNat := ⟨_, rfl⟩
    rw [← hroom] at HG
    have hr : r = (room : Int) := by omega
    subst hr
    clear hroom hr0
    go_wp2_with fail
    go_loopw [10, 11, 40] (fun s v i wr => SkRel w2 room l kn s v i wr) (fun _ _ i _ => kn - (intOf i).toNat)
    case atStart => exact ⟨0, by omega, rfl, Sk.start (Below.refl _ _)⟩
    case round =>
      obtain ⟨k, hk, rfl, hS⟩ := hrel
      have y0 := cell_of hS.bel y0
      have y1 := cell_of hS.bel y1
      have hbl := Nat.lt_of_lt_of_le hbl hS.bel.size
      obtain ⟨ps, cs, rfl, a1, a2, a3⟩ := owns_form hS.rs
      obtain ⟨pv, cv, rfl, b1, b2, _⟩ := owns_form hS.rr
      by_cases hlt : k < kn
      · obtain ⟨x, hx⟩ : ∃ x, l[k]? = some x := ⟨_, List.getElem?_eq_getElem (by have := hkn.out; omega)⟩
        obtain ⟨g, off, rfl, hg, hc⟩ := HN2.out (by have := hkn.out; omega)
        have c0 := hc k (by have := hkn.out; omega)
        rw [List.getD_eq_getElem?_getD, hx, Option.getD_some] at c0
        have c0 := cell_of hS.bel c0
        have hgr := Nat.lt_of_lt_of_le hg hS.bel.size
        have hl := stk_len room l k
        obtain ⟨S, hSe⟩ : ∃ S, S = (stk room l k).1 := ⟨_, rfl⟩
        obtain ⟨R, hRe⟩ : ∃ R, R = (stk room l k).2 := ⟨_, rfl⟩
        have E1 := stk_full (room := room) hx
        have E2 := stk_push (room := room) hx
        have E3 := stk_none (room := room) hx
        have E4 := fun (S : List Int) (y : Int) => stk_pop (room := room) (S := S) (y := y) hx
        rw [← hSe, ← hRe] at hS hl E1 E2 E3 E4
        rw [← hSe] at a1 a3 ⊢
        rw [← hRe] at b1 ⊢
        obtain ⟨nS, hnS⟩ : ∃ n, n = S.length := ⟨_, rfl⟩
        obtain ⟨nR, hnR⟩ : ∃ n, n = R.length := ⟨_, rfl⟩
        have HRS : Hid (wr.ownsRow w2.heap.size 3 1 (.slice ps nS cs) nS (ints S)) := Lib.hid (by have := hS.rs; rw [← hnS] at this; exact this)
        have HRR : Hid (wr.ownsRow w2.heap.size 3 1 (.slice pv nR cv) nR (ints R)) := Lib.hid (by have := hS.rr; rw [← hnR] at this; exact this)
        have HS : Hid (Sk w2 S R (.slice ps nS cs) (.slice pv nR cv) wr) := Lib.hid (by rw [hnS, hnR]; exact hS)
        have hnr : nR ≤ 62 := by omega
        have hns : nS ≤ 62 := by omega
        rw [← hnS] at a1 a3 ⊢
        rw [← hnR] at b1 ⊢
        have ha3 := Lib.hid a3
        have HX := Lib.hid hx
        have HEQ1 := Lib.hid hnS
        have HEQ2 := Lib.hid hnR
        have j1 : (k : Int) < (kn : Int) := by omega
        have HSZ := Lib.hid hS.bel.size
        have hml : (1000 : Nat) ≤ maxLen := by decide
        have t1 : nR + 1 ≤ maxLen := by omega
        have t2 : nS + 1 ≤ maxLen := by omega
        clear hS a3 hx hc HN2 HG HBL2 hSe hRe hl HB2 HB1
        by_cases h0 : 0 < x
        · by_cases h1 : nS = room
          · have HE := Lib.hid (E1 h0 (by rw [← hnS]; exact h1))
            have hq : ((nS : Int) == (room : Int)) = true := by simp [h1]
            clear E1 E2 E3 E4 hnS hnR HRS h1
            go_wp2_with (at_builtin; refine wpList_append_own_at _ (by rfl) (.tmp 68) (.tmp 69) 22 (by rfl) w2.heap.size 3 i0 (.int .i64 0) 1 8 Try.underlying22 HI.out HZ0.out HZ1.out HZ2.out (by rfl) (by decide) (.slice pv nR cv) nR _ (by rfl) (HRR.out.alloc _) ⟨wr.heap.size, 0, none⟩ 1 1 [.int .i64 (-1)] (by rfl) (by rfl) (cell_one_new _ _ _) (by simp [Value.oneCell']) t1 (by omega) (by have := HSZ.out; simp; omega) ?_)
            intro v5 w5 hown5 hG5 _ hat5
            obtain ⟨g5, cp5, rfl⟩ := ownsRow_succ hown5
            have HK : Hid (Sk w2 S (R ++ [-1]) (.slice ps nS cs) (.slice (some ⟨g5, 0, none⟩) (nR + 1) cp5) w5) := Lib.hid (((HS.out.below (one wr _)).swap.app (-1) (by rw [HEQ2.out]) rfl hown5 hG5 hat5 (by simp)).swap)
            clear hown5 hG5 hat5
            go_wp2
            go_roundw
            case rel => exact SkRel.of HK.out HE.out (by omega) (by go_num)
            case measure => simp [intOf]; omega
          · have HE := Lib.hid (E2 h0 (by rw [← hnS]; exact h1))
            have hq : ((nS : Int) == (room : Int)) = false := by simp; omega
            clear E1 E2 E3 E4 hnS hnR h1
            go_wp2_with (at_builtin; refine wpList_append_own_at _ (by rfl) (.tmp 74) (.tmp 76) 22 (by rfl) w2.heap.size 3 i0 (.int .i64 0) 1 8 Try.underlying22 HI.out HZ0.out HZ1.out HZ2.out (by rfl) (by decide) (.slice ps nS cs) nS _ (by rfl) (HRS.out.alloc _) ⟨wr.heap.size, 0, none⟩ 1 1 [.int .i64 x] (by rfl) (by rfl) (cell_one_new _ _ _) (by simp [Value.oneCell']) t2 (by omega) (by have := HSZ.out; simp; omega) ?_)
            intro v5 w5 hown5 hG5 _ hat5
            obtain ⟨g5, cp5, rfl⟩ := ownsRow_succ hown5
            have hK := (HS.out.below (one wr (.cells #[.int .i64 x] 3))).app x (by rw [HEQ1.out]) rfl hown5 hG5 hat5 (by simp)
            have HK : Hid (Sk w2 (S ++ [x]) R (.slice (some ⟨g5, 0, none⟩) (nS + 1) cp5) (.slice pv nR cv) w5) := Lib.hid hK
            have HRR5 : Hid (w5.ownsRow w2.heap.size 3 1 (.slice pv nR cv) nR (ints R)) := Lib.hid (by have := hK.rr; rw [← HEQ2.out] at this; exact this)
            have HSZ5 := Lib.hid hK.bel.size
            clear hown5 hG5 hat5 hK
            go_wp2_with (at_builtin; refine wpList_append_own_at _ (by rfl) (.tmp 78) (.tmp 80) 22 (by rfl) w2.heap.size 3 i0 (.int .i64 0) 1 8 Try.underlying22 HI.out HZ0.out HZ1.out HZ2.out (by rfl) (by decide) (.slice pv nR cv) nR _ (by rfl) (HRR5.out.alloc _) ⟨w5.heap.size, 0, none⟩ 1 1 [.int .i64 x] (by rfl) (by rfl) (cell_one_new _ _ _) (by simp [Value.oneCell']) t1 (by omega) (by have := HSZ5.out; simp; omega) ?_)
            intro v6 w6 hown6 hG6 _ hat6
            obtain ⟨g6, cp6, rfl⟩ := ownsRow_succ hown6
            have HK6 : Hid (Sk w2 (S ++ [x]) (R ++ [x]) (.slice (some ⟨g5, 0, none⟩) (nS + 1) cp5) (.slice (some ⟨g6, 0, none⟩) (nR + 1) cp6) w6) := Lib.hid (((HK.out.below (one w5 _)).swap.app x (by rw [HEQ2.out]) rfl hown6 hG6 hat6 (by simp)).swap)
            clear hown6 hG6 hat6
            go_wp2
            go_roundw
            case rel => exact SkRel.of HK6.out HE.out (by omega) (by go_num)
            case measure => simp [intOf]; omega
        · cases S with
          | nil =>
            obtain rfl : nS = 0 := by simpa using hnS
            have HE := Lib.hid (E3 h0 rfl)
            clear E1 E2 E3 E4 hnS hnR HRS
            go_wp2_with (at_builtin; refine wpList_append_own_at _ (by rfl) (.tmp 86) (.tmp 87) 22 (by rfl) w2.heap.size 3 i0 (.int .i64 0) 1 8 Try.underlying22 HI.out HZ0.out HZ1.out HZ2.out (by rfl) (by decide) (.slice pv nR cv) nR _ (by rfl) (HRR.out.alloc _) ⟨wr.heap.size, 0, none⟩ 1 1 [.int .i64 0] (by rfl) (by rfl) (cell_one_new _ _ _) (by simp [Value.oneCell']) t1 (by omega) (by have := HSZ.out; simp; omega) ?_)
            intro v5 w5 hown5 hG5 _ hat5
            obtain ⟨g5, cp5, rfl⟩ := ownsRow_succ hown5
            have HK : Hid (Sk w2 [] (R ++ [0]) (.slice ps 0 cs) (.slice (some ⟨g5, 0, none⟩) (nR + 1) cp5) w5) := Lib.hid (((HS.out.below (one wr (.cells #[.int .i64 0] 3))).swap.app 0 (by rw [HEQ2.out]) rfl hown5 hG5 hat5 (by simp)).swap)
            clear hown5 hG5 hat5
            go_wp2
            go_roundw
            case rel => exact SkRel.of HK.out HE.out (by omega) (by go_num)
            case measure => simp [intOf]; omega
          | cons z0 S0 =>
            obtain ⟨S1, y, hSy⟩ : ∃ S1 y, z0 :: S0 = S1 ++ [y] := ⟨_, _, (List.dropLast_concat_getLast (List.cons_ne_nil z0 S0)).symm⟩
            obtain ⟨m, rfl⟩ : ∃ m, nS = m + 1 := ⟨S0.length, by simpa using hnS⟩
            have hm1 : S1.length = m := by have := congrArg List.length hSy; simp at this hnS; omega
            have HE := Lib.hid (E4 S1 y h0 hSy)
            obtain ⟨gs, rfl, hgs, hcs⟩ := ha3.out (by omega)
            have cS : wr.cell? ⟨gs, m, none⟩ = some (.int .i64 y) := hcs m _ (by rw [hSy, ← hm1]; simp [ints])
            have HSY : Hid (Sk w2 (S1 ++ [y]) R (.slice (some ⟨gs, 0, none⟩) (m + 1) cs) (.slice pv nR cv) wr) := Lib.hid (by rw [← hSy]; exact HS.out)
            have HM1 := Lib.hid hm1
            have q1 : ((m : Int) + 1 == 0) = false := by simp; omega
            have q2 : (0 : Int) ≤ (m : Int) := by omega
            clear E1 E2 E3 E4 hnS hnR HRS hcs hm1 hSy ha3
            go_wp2_with (at_builtin; refine wpList_append_own_at _ (by rfl) (.tmp 44) (.tmp 51) 22 (by rfl) w2.heap.size 3 i0 (.int .i64 0) 1 8 Try.underlying22 HI.out HZ0.out HZ1.out HZ2.out (by rfl) (by decide) (.slice pv nR cv) nR _ (by rfl) (HRR.out.alloc _) ⟨wr.heap.size, 0, none⟩ 1 1 [.int .i64 y] (by rfl) (by rfl) (cell_one_new _ _ _) (by simp [Value.oneCell']) t1 (by omega) (by have := HSZ.out; simp; omega) ?_)
            intro v5 w5 hown5 hG5 _ hat5
            obtain ⟨g5, cp5, rfl⟩ := ownsRow_succ hown5
            have hK := ((HSY.out.below (one wr (.cells #[.int .i64 y] 3))).swap.app y (by rw [HEQ2.out]) rfl hown5 hG5 hat5 (by simp)).swap
            have HK : Hid (Sk w2 S1 (R ++ [y]) (.slice (some ⟨gs, 0, none⟩) m cs) (.slice (some ⟨g5, 0, none⟩) (nR + 1) cp5) w5) := Lib.hid (by
              have h := hK
              rw [← HM1.out] at h
              have h2 := h.pop
              rw [HM1.out] at h2
              exact h2)
            clear hown5 hG5 hat5 hK
            go_wp2_with fail
            go_roundw
            case rel => exact SkRel.of HK.out HE.out (by omega) (by go_num)
            case measure => simp [intOf]; omega
      · obtain rfl : k = kn := by omega
        have hl := stk_len room l k
        obtain ⟨T, hT⟩ : ∃ T, T = stk room l k := ⟨_, rfl⟩
        rw [← hT] at hS a1 b1 HG hl ⊢
        obtain ⟨S, R⟩ := T
        simp only at hS a1 b1 hl ⊢
        have HG : Hid (∀ W', Below w2.heap.size w2 W' → Calls Try.prog 24 #[ptr rb, .int .i64 0] W' (numsPost W' R) ∧ Calls Try.prog 21 #[ptr rb] W' (numsPost W' S)) := HG
        have HNS := Lib.hid (nums_at hS.rs)
        have HNR := Lib.hid (nums_at hS.rr)
        have HBL := Lib.hid hS.bel
        have hl1 : S.length ≤ 1000000 := by omega
        have hl2 : R.length ≤ 1000000 := by omega
        have C3 := Lib.hid (HG.out wr hS.bel).1
        clear hS a3 hT hl a1 a2 b1 b2
        unfold numsPost at C3
        go_wp2_with fail
        refine C3.out.mono ?_
        rintro e w5 ⟨p5, c5, rfl, k1, k2, k3, k4⟩
        have C5 := Lib.hid (equalI_any w5 p5 pv c5 cv R R hl2 hl2 (nums_at k3) (HNR.out.below k4))
        have HB5 := Lib.hid (HBL.out.trans (k4.mono HBL.out.size))
        have HNS5 := Lib.hid (HNS.out.below k4)
        rw [beq_self_eq_true] at C5
        unfold still at C5
        clear k1 k2 k3 k4 C3
        go_wp2_with fail
        refine C5.out.mono ?_
        rintro e w6 ⟨rfl, hb6⟩
        have HB6 := Lib.hid (HB5.out.trans (hb6.mono HB5.out.size))
        have HNS6 := Lib.hid (HNS5.out.below hb6)
        have C6 := Lib.hid (HG.out w6 HB6.out).2
        unfold numsPost at C6
        clear hb6 C5
        go_wp2_with fail
        refine C6.out.mono ?_
        rintro e w7 ⟨p7, c7, rfl, k1, k2, k3, k4⟩
        have C7 := Lib.hid (equalI_any w7 p7 ps c7 cs S S hl1 hl1 (nums_at k3) (HNS6.out.below k4))
        have HB7 := Lib.hid (HB6.out.trans (k4.mono HB6.out.size))
        rw [beq_self_eq_true] at C7
        unfold still at C7
        clear k1 k2 k3 k4 C6
        go_wp2_with fail
        refine C7.out.mono ?_
        rintro e w8 ⟨rfl, hb8⟩
        have HB8 := Lib.hid (HB7.out.trans (hb8.mono HB7.out.size))
        clear hb8 C7
        go_wp2_with fail
        refine (AW.out _).mono ?_
        rintro e w9 ⟨rfl, hb9⟩
        have HB9 := Lib.hid (HB2.out.trans ((HB8.out.trans (hb9.mono HB8.out.size)).mono HB2.out.size))
        clear hb9
        go_wp2
        go_ret
        exact ⟨rfl, HB9.out⟩
end Go.Proofs.Ytajccigefoddiaa
