/- The method tokens hands the tokens of its source to its caller, one by one, the end too; it stops where there is none, and says so. -/
import Derived.RangeFuncNested
import Derived.RangeFuncBound
import Derived.RangeFuncCalls
import Derived.RangeFuncLeaves
import Derived.Shelf.Abstract
import Derived.Shelf.RegionOpen
import Derived.WalkKit
import Derived.OwnWalkIn
import Derived.TacticsInMore
import Derived.LoopNIn
import Derived.LoopIn
import Derived.Test.YtbhknpombmdhiaaDoorSkip
namespace Go.Proofs.YtbhknpombmdhiaaDoor
open Go.RowKit Go.Shelf
attribute [local go_sem] Oper.semAt_some

namespace Lx
abbrev Tok := Int × List UInt8 × Nat
/-- The tokens before a position, where a token or the end begins, are pre. -/
def SI (s : List UInt8) (pre : List Tok) (a : Nat) : Prop :=
  ∃ at0 fuel, a = skipAt s at0 ∧ tokens s = (pre ++ (scan s (fuel + 1) at0).1, (scan s (fuel + 1) at0).2) ∧ s.length < fuel + 1 + at0 ∧ pre.length ≤ at0 ∧ at0 ≤ s.length

theorem skipAt_ge (s : List UInt8) (a : Nat) : a ≤ skipAt s a := by unfold skipAt; omega
theorem skipAt_le {s : List UInt8} {a : Nat} (h : a ≤ s.length) : skipAt s a ≤ s.length := by
  have := skip_le false (s.drop a)
  rw [List.length_drop] at this
  unfold skipAt; omega
theorem SI.start (s : List UInt8) : SI s [] (skipAt s 0) := ⟨0, s.length, rfl, by simp [tokens], by omega, by simp, by omega⟩
theorem SI.le {s : List UInt8} {pre : List Tok} {a : Nat} (h : SI s pre a) : pre.length ≤ a ∧ a ≤ s.length := by
  obtain ⟨at0, fuel, rfl, _, _, h1, h2⟩ := h
  exact ⟨Nat.le_trans h1 (skipAt_ge s at0), skipAt_le h2⟩
theorem SI.step {s : List UInt8} {pre : List Tok} {a : Nat} {k : Int} {t : List UInt8} {n : Nat} (h : SI s pre a) (ha : a < s.length) (ht : tokenAt (s.drop a) = some (k, t, n)) : SI s (pre ++ [(k, t, a)]) (skipAt s (a + n)) := by
  obtain ⟨at0, fuel, rfl, h1, h2, h3, h4⟩ := h
  have hp := tokenAt_pos ht
  rw [List.length_drop] at hp
  have hge := skipAt_ge s at0
  obtain ⟨f', rfl⟩ : ∃ f', fuel = f' + 1 := ⟨fuel - 1, by omega⟩
  refine ⟨skipAt s at0 + n, f', rfl, ?_, by omega, by simp; omega, by omega⟩
  rw [h1]
  have e : scan s (f' + 1 + 1) at0 = ((k, t, skipAt s at0) :: (scan s (f' + 1) (skipAt s at0 + n)).1, (scan s (f' + 1) (skipAt s at0 + n)).2) := by
    conv => lhs; unfold scan
    rw [if_pos ha, ht]
  rw [e]; simp
theorem SI.bad {s : List UInt8} {pre : List Tok} {a : Nat} (h : SI s pre a) (ha : a < s.length) (ht : tokenAt (s.drop a) = none) : tokens s = (pre, some a) := by
  obtain ⟨at0, fuel, rfl, h1, h2, h3, h4⟩ := h
  rw [h1]
  have e : scan s (fuel + 1) at0 = ([], some (skipAt s at0)) := by
    conv => lhs; unfold scan
    rw [if_pos ha, ht]
  rw [e]; simp
theorem SI.fin {s : List UInt8} {pre : List Tok} {a : Nat} (h : SI s pre a) (ha : ¬ a < s.length) : tokens s = (pre ++ [(6, [], s.length)], none) := by
  obtain ⟨at0, fuel, rfl, h1, h2, h3, h4⟩ := h
  rw [h1]
  have e : scan s (fuel + 1) at0 = ([(6, [], s.length)], none) := by
    conv => lhs; unfold scan
    rw [if_neg ha]
  rw [e]
end Lx

/-- A token as the loop's body is handed it. -/
def encV (x : Lx.Tok) : Value := .agg #[.int .i64 x.1, .string ⟨x.2.1.toArray⟩, .int .i64 (x.2.2 : Nat)]

set_option maxRecDepth 100000 in
set_option maxHeartbeats 4000000 in
theorem tokens_in (n l S Bm : Nat) (src : ByteArray) (J : List Lx.Tok → World → Prop)
    (hJ : ∀ pre W W', J pre W → Only S W W' → J pre W')
    (hY : ∀ pre x W, J pre W → pre.length ≤ src.size → S + 1 < W.heap.size → YieldAt Fence.wide (n - 1) Tryd.prog l #[encV x] W fun e W' => e = .returned (.bool true) ∧ J (pre ++ [x]) W' ∧ Below (S + 2) W W')
    (W : World) (hsc : Sc W S Bm src 0 false) (henv : Env W) (hS8 : 8 ≤ S) (hs : src.size < 4294967281) (h0 : J [] W) :
    CallsIn Fence.wide n Tryd.prog 36 #[.pointer (some ⟨S, 0, none⟩), .func (.yield l) #[] #[]] W fun e W' => (∃ v, e = .returned v) ∧
      ((Lx.tokens src.data.toList).2 = none ∧ J (Lx.tokens src.data.toList).1 W' ∧ (∃ a, Sc W' S Bm src a false) ∨
       ∃ p, (Lx.tokens src.data.toList).2 = some p ∧ J (Lx.tokens src.data.toList).1 W' ∧ Sc W' S Bm src p true) := by
  have HJ := Lib.hid hJ
  have HY := Lib.hid hY
  have HL : Hid (src.data.toList.length = src.size) := Lib.hid (list_len src)
  clear hJ hY
  refine callsIn_of_wp Tryd.func36 rfl trivial ?_ rfl
  simp only [Tryd.ntmps36, List.size_toArray, List.length_cons, List.length_nil, Nat.reduceAdd, Nat.reduceSub, Array.replicate_succ, Array.replicate_zero, List.push_toArray, List.append_toArray, List.nil_append, List.cons_append]
  gi_wp2_with fail
  refine ⟨trivial, (fun h => nomatch h), ?_⟩
  refine (callsIn_wide.2 (skip_any S Bm src 0 false W hs (Nat.zero_le _) hsc)).mono ?_
  rintro e w1 ⟨rfl, hsc1, hle, ho⟩
  have hJ1 := HJ.out _ _ _ h0 ho
  have hE1 := henv.only ho hS8
  clear h0 ho henv hsc
  gi_wp2_with fail
  gi_loopw [4] (fun _ wr => ∃ (a : Nat) (pre : List Lx.Tok), a ≤ src.size ∧ Sc wr S Bm src a false ∧ Env wr ∧ J pre wr ∧ Hid (Lx.SI src.data.toList pre a)) (fun _ wr => src.size - atOf S wr)
  case atStart => exact ⟨_, [], hle, hsc1, hE1, hJ1, Lib.hid (Lx.SI.start _)⟩
  case round =>
    obtain ⟨a, pre, hle2, hsc2, hE2, hJ2, hI⟩ := hrel
    have c0 := hsc2.c0
    have c1 := hsc2.c1
    have HS := Lib.hid hsc2
    clear hsc2 hsc1 hE1 hJ1 hle
    by_cases hlt : a < src.size
    · gi_wp2_with fail
      gi_region
      gi_wp2_with fail
      refine ⟨trivial, (fun h => nomatch h), ?_⟩
      refine (callsIn_wide.2 (token_any S Bm src a false _ hs hlt HS.out.drew (hE2.below hE2.2.2 (Below.refl _ _).drew))).mono ?_
      rintro e w2 ⟨rfl, hb2⟩
      have hsc3 := HS.out.drew.below hb2 HS.out.size
      have hE3 : Env w2 := (hE2.below hE2.2.2 (Below.refl _ _).drew : Env wr.drew).below hE2.2.2 hb2
      have hJ3 := HJ.out _ _ _ hJ2 ((Only.refl S wr).drew.trans (Only.of_below hb2))
      clear c0 c1 hE2 hJ2
      have c0 := hsc3.c0
      have c1 := hsc3.c1
      have c2 := hsc3.c2
      have f1 := hsc3.fz 1
      have f2 := hsc3.fz 2
      have hz := hsc3.size
      have hzS : S < w2.heap.size := by omega
      have HS3 := Lib.hid hsc3
      have HE3 := Lib.hid hE3
      have HJ3 := Lib.hid hJ3
      clear hsc3 hE3 hJ3 hb2
      cases ho : Lx.tokenAt (src.data.toList.drop a) with
      | none =>
        have HB := Lib.hid (hI.out.bad (by rw [HL.out]; exact hlt) ho)
        clear ho
        unfold tokV
        gi_wp2
        refine bodyPost_ret (results_none rfl _ _ _) rfl ⟨⟨_, rfl⟩, .inr ⟨a, by rw [HB.out], ?_, ?_⟩⟩
        · rw [HB.out]; exact HJ.out _ _ _ HJ3.out (((Only.refl S w2).set _).trans (Only.of_below ((Below.refl _ _).alloc (Nat.le_refl _) _)))
        · exact HS3.out.stop.below ((Below.refl _ _).alloc (Nat.le_refl _) _) (by simpa using hz)
      | some q =>
        obtain ⟨kk, tt, nn⟩ := q
        have hpos := Lx.tokenAt_pos ho
        rw [List.length_drop, HL.out] at hpos
        have HST := Lib.hid (hI.out.step (by rw [HL.out]; exact hlt) ho)
        clear ho
        unfold tokV
        gi_wp2_with fail
        have HO3 : Only S w2 ((w2.setCell ⟨S, 1, none⟩ (.int .i64 ((a : Int) + nn))).alloc (.cells #[.int .i64 kk, .string ⟨tt.toArray⟩, .int .i64 a] 47)) := ((Only.refl S w2).set _).trans (Only.of_below ((Below.refl _ _).alloc (Nat.le_refl _) _))
        have hS4 : Sc ((w2.setCell ⟨S, 1, none⟩ (.int .i64 ((a : Int) + nn))).alloc (.cells #[.int .i64 kk, .string ⟨tt.toArray⟩, .int .i64 a] 47)) S Bm src (a + nn) false := (HS3.out.setI (by omega)).below ((Below.refl _ _).alloc (Nat.le_refl _) _) (by simpa using hz)
        obtain ⟨fn, tmps, assign, body, hy, hR⟩ := HY.out pre (kk, tt, a) _ (HJ.out _ _ _ HJ3.out HO3) (by have := hI.out.le; omega) hS4.size
        unfold encV at hy
        have hE4 := HE3.out.only HO3 hS8
        have HS4 := Lib.hid hS4
        have HE4 := Lib.hid hE4
        clear hS4 hE4 HO3
        gi_wp2_with fail
        refine ⟨(fun h => nomatch h), ?_⟩
        refine hR.mono ?_
        rintro e W3 ⟨rfl, hJ4, hB4⟩
        have hS5 := HS4.out.below hB4 (by omega)
        have hE5 := HE4.out.below (by omega) hB4
        have HS5 := Lib.hid hS5
        have HE5 := Lib.hid hE5
        have HJ4 := Lib.hid hJ4
        clear hS5 hE5 hJ4 hB4 hy
        gi_wp2_with fail
        refine ⟨trivial, (fun h => nomatch h), ?_⟩
        refine (callsIn_wide.2 (skip_any S Bm src (a + nn) false W3 hs (by omega) HS5.out)).mono ?_
        rintro e W4 ⟨rfl, hs6, hle6, ho6⟩
        have hJ6 := HJ.out _ _ _ HJ4.out ho6
        have hE6 := HE5.out.only ho6 hS8
        have hge := Lx.skipAt_ge src.data.toList (a + nn)
        gi_wp2
        go_roundw
        case rel => exact ⟨_, pre ++ [(kk, tt, a)], hle6, hs6, hE6, hJ6, HST⟩
        case measure => rw [atOf_eq hs6, atOf_eq HS.out]; omega
    · gi_wp2_with fail
      gi_region
      gi_wp2_with fail
      obtain ⟨fn, tmps, assign, body, hy, hR⟩ := HY.out pre (6, [], src.size) wr.drew (HJ.out _ _ _ hJ2 (Only.refl S wr).drew) (by have := hI.out.le; omega) HS.out.size
      unfold encV at hy
      have HB := Lib.hid (hI.out.fin (by rw [HL.out]; exact hlt))
      gi_wp2_with fail
      refine ⟨(fun h => nomatch h), ?_⟩
      refine hR.mono ?_
      rintro e W3 ⟨rfl, hJ4, hB4⟩
      have hS5 := HS.out.drew.below hB4 (by omega)
      gi_wp2
      go_end0
      refine ⟨⟨_, rfl⟩, .inl ⟨by rw [HB.out], ?_, _, hS5⟩⟩
      rw [HB.out, HL.out]
      exact hJ4

end Go.Proofs.YtbhknpombmdhiaaDoor
