/- What the document's own answers say of all tokens of a source. -/
import Derived.Test.YtbhknpombmdhiaaDoorRefTok
import Derived.Test.YtbhknpombmdhiaaDoorTokens
namespace Go.Proofs.YtbhknpombmdhiaaDoor
open Go.RowKit

theorem own_after {W W' : World} {b n : Nat} {v : Value} {xs : List Value} (h : W.ownsRow b 47 3 v n xs) (hb : Below W.heap.size W W') : W'.ownsRow b 47 3 v n xs := by
  refine ⟨h.1, ?_⟩
  rcases h.2 with h0 | ⟨g, cap, cur, e, hbg, hg, r⟩
  · exact .inl h0
  · exact .inr ⟨g, cap, cur, e, hbg, (hb.block g (Array.getElem?_eq_some_iff.1 hg).1).trans hg, r⟩
theorem own_form {W : World} {b n : Nat} {v : Value} {xs : List Value} (h : W.ownsRow b 47 3 v n xs) : ∃ p cap, v = .slice p n cap := by
  rcases h.2 with ⟨rfl, rfl⟩ | ⟨g, cap, cur, e, _⟩
  · exact ⟨none, 0, rfl⟩
  · exact ⟨_, _, e⟩
theorem below_row3 {w w' : World} {B : Nat} {v : Value} {n : Nat} {xs : List Value} {o : Obj} (hown : w.ownsRow B 47 3 v n xs) (hB : B ≤ w.heap.size) (hg : (w.alloc o).grownBy w' v.ownBlock) : Below B w w' :=
  ((Below.refl B w).alloc hB o).grown hg (by rw [World.size_alloc]; omega) (fun k e => (hown.lt k e).1)
theorem cellsT_push (l : List Lx.Tok) (k : Int) (t : List UInt8) (p : Nat) : cellsT l ++ [.int .i64 k, .string ⟨t.toArray⟩, .int .i64 (p : Nat)] = cellsT (l ++ [(k, t, p)]) := by
  rw [cellsT_snoc]; rfl

theorem rtokens_full (src : ByteArray) (w : World) (hs : 4000 < src.size) :
    Calls Tryd.prog 16 #[.string src] w fun e w' => e = .returned (.tuple #[.slice none 0 0, .int .i64 0, .int .i64 5]) ∧ w = w' := by
  have h : (4000 : Int) < src.size := by omega
  go_enter Tryd.func16, Tryd.ntmps16
  go_wp2
  go_ret3
  exact ⟨rfl, rfl⟩

theorem tokens_full (src : ByteArray) (w : World) (hs : 4000 < src.size) :
    Calls Tryd.prog 15 #[.string src] w fun e w' => e = .returned (.tuple #[.slice none 0 0, .int .i64 0, .int .i64 5]) ∧ Below w.heap.size w w' := by
  have h : (4000 : Int) < src.size := by omega
  have hd : decide ((4000 : Int) < src.size) = true := by simpa using h
  go_enter Tryd.func15, Tryd.ntmps15
  go_wp2
  go_ret3
  exact ⟨rfl, Below.refl _ _⟩

set_option maxRecDepth 100000 in
set_option maxHeartbeats 4000000 in
theorem rtokens_any (src : ByteArray) (w : World) (hs : src.size ≤ 4000) :
    Calls Tryd.prog 16 #[.string src] w (TokPost src w) := by
  have HL : Hid (src.data.toList.length = src.size) := Lib.hid (list_len src)
  have hsi : (src.size : Int) ≤ 4000 := by omega
  obtain ⟨i0, hi, hz0, hz1, hz2⟩ := info_parts info47
  have HI := Lib.hid hi; have HZ0 := Lib.hid hz0; have HZ1 := Lib.hid hz1; have HZ2 := Lib.hid hz2
  clear hi hz0 hz1 hz2
  go_enter Tryd.func16, Tryd.ntmps16
  go_wp2_with (go_at_call 37; refine (rblank_any src 0 _ (by omega) (Nat.zero_le _)).mono ?_; rintro e w' ⟨rfl, rfl⟩)
  go_loopw [5, 6] (fun v i wr => ∃ (a : Nat) (pre : List Lx.Tok), a ≤ src.size ∧ i = .int .i64 a ∧ wr.ownsRow w.heap.size 47 3 v pre.length (cellsT pre) ∧ pre.length ≤ 4000 ∧ Below w.heap.size w wr ∧ Hid (Lx.SI src.data.toList pre a)) (fun _ i _ => src.size - (intOf i).toNat)
  case atStart => exact ⟨_, [], by have := (Lx.SI.start src.data.toList).le; rw [HL.out] at this; exact this.2, rfl, World.ownsRow_nil _ _ _ _, by simp, Below.refl _ _, Lib.hid (Lx.SI.start _)⟩
  case round =>
    obtain ⟨a, pre, ha, rfl, hown, hpre, hB, hI⟩ := hrel
    have hBz := hB.size
    have HO := Lib.hid hown
    obtain ⟨p, cap, rfl⟩ := own_form hown
    have HB := Lib.hid hB
    clear hown hB
    by_cases hlt : a < src.size
    · have T := rtoken_any src a wr (by omega) hlt
      have HT := Lib.hid T
      clear T
      go_wp2_with fail
      refine HT.out.mono ?_
      rintro e w1 ⟨k, t, n, ok, rfl, g1, g2, hb1⟩
      have HO1 := Lib.hid (own_after HO.out hb1)
      have HB1 := Lib.hid (HB.out.trans (hb1.mono hBz))
      have hz1 := hb1.size
      clear hb1
      cases ok
      · have HN := Lib.hid (hI.out.bad (by rw [HL.out]; exact hlt) (g2 rfl))
        clear g1 g2
        go_wp2_with fail
        go_ret3
        exact ⟨(fun h => by rw [HN.out] at h; cases h), (fun q hq => by rw [HN.out] at hq; cases hq; rfl), HB1.out.alloc (by omega) _⟩
      · obtain ⟨han, htk⟩ := g1 rfl
        have hpos := Lx.tokenAt_pos htk
        rw [List.length_drop, HL.out] at hpos
        have hI' := hI.out.step (by rw [HL.out]; exact hlt) htk
        rw [show a + (n - a) = n by omega] at hI'
        have hle := hI'.le
        rw [HL.out] at hle
        have hpre' : (pre ++ [(k, t, a)]).length ≤ 4000 := by omega
        have hskge := Lx.skipAt_ge src.data.toList n
        have HI' := Lib.hid hI'
        have BL := Lib.hid (fun w => rblank_any src n w (by omega) (by omega))
        have hle2 := hle.2
        generalize Lx.skipAt src.data.toList n = a2 at *
        have hpl : pre.length ≤ 4000 := hpre
        clear g1 g2 htk hI' hI hle hpre
        go_wp2_with (first | (at_builtin; refine wpList_append_own _ rfl _ _ 23 rfl w.heap.size 47 i0 (.agg #[.int .i64 0, .string ⟨#[]⟩, .int .i64 0]) 3 32 Tryd.underlying23 HI.out HZ0.out HZ1.out HZ2.out rfl (by decide) _ _ _ rfl ((own_after HO1.out ((Below.refl w1.heap.size w1).alloc (Nat.le_refl _) (.cells #[.int .i64 k, .string ⟨t.toArray⟩, .int .i64 a] 47))).alloc _) ⟨w1.heap.size + 1, 0, none⟩ 1 1 [.int .i64 k, .string ⟨t.toArray⟩, .int .i64 a] rfl rfl ?n1 ?n2 ?n3 ?n4 ?n5 ?_))
        case n1 =>
          have hc := cell_three_new (w1.alloc (.cells #[.int .i64 k, .string ⟨t.toArray⟩, .int .i64 a] 47)) (.int .i64 k) (.string ⟨t.toArray⟩) (.int .i64 a) 47
          rw [World.size_alloc] at hc
          exact hc
        case n2 => simp [Value.oneCell']
        case n3 => unfold maxLen; omega
        case n4 => omega
        case n5 => simp; omega
        intro v' w3 hown' hgrow _
        have hbw := below_row3 (own_after HO1.out ((Below.refl w1.heap.size w1).alloc (Nat.le_refl _) (.cells #[.int .i64 k, .string ⟨t.toArray⟩, .int .i64 a] 47))) (by simp; omega) hgrow
        have hb3 := Lib.hid ((HB1.out.alloc (by omega) (.cells #[.int .i64 k, .string ⟨t.toArray⟩, .int .i64 a] 47)).trans hbw)
        rw [cellsT_push] at hown'
        have HO3 := Lib.hid hown'
        clear hown' hgrow hbw
        go_wp2_with (go_at_call 37; refine (BL.out _).mono ?_; rintro e w' ⟨rfl, rfl⟩)
        go_roundw
        case rel => exact ⟨a2, pre ++ [(k, t, a)], hle2, rfl, by simpa using HO3.out, hpre', hb3.out, HI'⟩
        case measure => simp [intOf]; omega
    · have HF := Lib.hid (hI.out.fin (by rw [HL.out]; exact hlt))
      clear hI
      go_wp2_with (first | (at_builtin; refine wpList_append_own _ rfl _ _ 23 rfl w.heap.size 47 i0 (.agg #[.int .i64 0, .string ⟨#[]⟩, .int .i64 0]) 3 32 Tryd.underlying23 HI.out HZ0.out HZ1.out HZ2.out rfl (by decide) _ _ _ rfl (HO.out.alloc _) ⟨wr.heap.size, 0, none⟩ 1 1 [.int .i64 6, .string ⟨#[]⟩, .int .i64 src.size] rfl rfl ?m1 ?m2 ?m3 ?m4 ?m5 ?_))
      case m1 => exact cell_three_new _ _ _ _ _
      case m2 => simp [Value.oneCell']
      case m3 => unfold maxLen; omega
      case m4 => omega
      case m5 => simp; omega
      intro v' w3 hown' hgrow _
      have hbw := below_row3 HO.out hBz hgrow
      have hb3 := Lib.hid (HB.out.trans hbw)
      rw [show ([.int .i64 6, .string ⟨#[]⟩, .int .i64 src.size] : List Value) = [.int .i64 6, .string ⟨([] : List UInt8).toArray⟩, .int .i64 (src.size : Nat)] from rfl, cellsT_push] at hown'
      have HO3 := Lib.hid hown'
      clear hown' hgrow hbw
      go_wp2_with fail
      go_ret3
      refine ⟨fun _ => ⟨v', rfl, ?_⟩, (fun q hq => by rw [HF.out] at hq; cases hq), hb3.out⟩
      rw [HF.out, HL.out]
      simpa using HO3.out

end Go.Proofs.YtbhknpombmdhiaaDoor
