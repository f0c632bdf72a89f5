/- What the document's own answers read at a position: a token. -/
import Derived.Test.YtbhknpombmdhiaaDoorRefRead
import Derived.Deep.RegionWith
import Derived.IntWalk
namespace Go.Proofs.YtbhknpombmdhiaaDoor
open Go.RowKit

/-- What the reader of tokens comes to. -/
def RToken (s : ByteArray) (a : Nat) (w : World) (e : Ending) (w' : World) : Prop :=
  ∃ (k : Int) (t : List UInt8) (n : Nat) (ok : Bool), e = .returned (.tuple #[.agg #[.int .i64 k, .string ⟨t.toArray⟩, .int .i64 a], .int .i64 n, .bool ok]) ∧ (ok = true → a ≤ n ∧ Lx.tokenAt (s.data.toList.drop a) = some (k, t, n - a)) ∧ (ok = false → Lx.tokenAt (s.data.toList.drop a) = none) ∧ Below w.heap.size w w'

theorem piece_list (s : ByteArray) (a m : Nat) : (s.extract a m).data.toList = (s.data.toList.drop a).take (m - a) := by
  simp only [ByteArray.data_extract, Array.toList_extract, List.extract_eq_take_drop]
theorem piece_bytes (s : ByteArray) (a m : Nat) : (⟨((s.data.toList.drop a).take (m - a)).toArray⟩ : ByteArray) = s.extract a m := WideShapes.bytes_inj (by rw [piece_list])

theorem RToken.mk {s : ByteArray} {a m : Nat} {k : Int} {ok : Bool} {w w' : World} (ham : a ≤ m)
    (h : Lx.tokenAt (s.data.toList.drop a) = if ok = true then some (k, (s.data.toList.drop a).take (m - a), m - a) else none) (hb : Below w.heap.size w w') :
    RToken s a w (.returned (.tuple #[.agg #[.int .i64 k, .string (s.extract a m), .int .i64 a], .int .i64 m, .bool ok])) w' := by
  refine ⟨k, (s.data.toList.drop a).take (m - a), m, ok, by rw [piece_bytes], fun e => ⟨ham, ?_⟩, fun e => ?_, hb⟩
  · rw [h, if_pos e]
  · rw [h, if_neg (by rw [e]; decide)]

theorem RToken.turn {s : ByteArray} {a : Nat} {w w' w2 : World} {e : Ending} (h : RToken s a w e w') (hb : Below w.heap.size w w2) : RToken s a w e w2 := by
  obtain ⟨k, t, n, ok, h1, h2, h3, _⟩ := h
  exact ⟨k, t, n, ok, h1, h2, h3, hb⟩

theorem old_cells {W w1 : World} (h : Below W.heap.size W w1) :
    (∀ b o, b < W.heap.size → w1.cell? ⟨b, o, none⟩ = W.cell? ⟨b, o, none⟩) ∧ (∀ b o, b < W.heap.size → w1.frozen? ⟨b, o, none⟩ = W.frozen? ⟨b, o, none⟩) ∧ W.heap.size ≤ w1.heap.size :=
  ⟨fun b o hb => h.cell (p := ⟨b, o, none⟩) hb, fun b o hb => h.frozen (p := ⟨b, o, none⟩) hb, h.size⟩

theorem keep3' {w w1 : World} {a b c : Value} {t : TypeId} (hb : Below (w.alloc (.cells #[a, b, c] t)).heap.size (w.alloc (.cells #[a, b, c] t)) w1) :
    w1.cell? ⟨w.heap.size, 0, none⟩ = some a ∧ w1.cell? ⟨w.heap.size, 1, none⟩ = some b ∧ w1.cell? ⟨w.heap.size, 2, none⟩ = some c ∧
    w1.frozen? ⟨w.heap.size, 0, none⟩ = false ∧ w1.frozen? ⟨w.heap.size, 1, none⟩ = false ∧ w1.frozen? ⟨w.heap.size, 2, none⟩ = false ∧ w.heap.size < w1.heap.size :=
  keep3 (n := 0) hb
theorem new1_then' {w w1 : World} {o : Obj} (h : Below (w.alloc o).heap.size (w.alloc o) w1) : Below w.heap.size w w1 := new1_then (n := 0) h

set_option maxRecDepth 100000 in
set_option maxHeartbeats 1600000 in
theorem rtoken_letter (s : ByteArray) (a : Nat) (w : World) (hs : s.size < 4294967281) (ha : a < s.size) (hl : Lx.isLetter (s[a]'ha) = true) :
    Calls Tryd.prog 38 #[.string s, .int .i64 a] w (RToken s a w) := by
  have hr : s.data.toList.drop a = (s[a]'ha) :: (s.data.toList.drop a).tail := by
    rw [Lx.drop_at _ _ (by rw [list_len]; exact ha)]; rfl
  have ht := Lx.tokenAt_letter hr hl
  have K1 := rletter_any (s[a]'ha)
  rw [hl] at K1
  have R := fun w => rrun_ld s a w (by omega) (by omega)
  have hle := Lx.run_le Lx.isLD (s.data.toList.drop a)
  rw [List.length_drop, list_len] at hle
  generalize hm : Lx.run Lx.isLD (s.data.toList.drop a) = n0 at *
  obtain ⟨m, hm2⟩ : ∃ m, m = a + n0 := ⟨_, rfl⟩
  rw [← hm2] at R
  have hms : m ≤ s.size := by omega
  have ham : a ≤ m := by omega
  rw [show n0 = m - a by omega] at ht
  have W := fun w => rIsWord_any (s.extract a m) w
  have N := fun w => rIsName_any (s.extract a m) w (by simp; omega)
  rw [piece_list] at W N
  have KK1 := Lib.hid K1
  have RR := Lib.hid R
  have h0 : 0 ≤ (a : Int) := by omega
  have h1 : (a : Int) ≤ m := by omega
  have h2 : (m : Int) ≤ s.size := by omega
  clear K1 R hm hm2 hle hr hl
  cases hw : Lx.isWord ((s.data.toList.drop a).take (m - a))
  · rw [hw] at W ht
    have WW := Lib.hid W
    cases hn : Lx.isName ((s.data.toList.drop a).take (m - a))
    · rw [hn] at N ht
      have NN := Lib.hid N
      have HT : Hid (Lx.tokenAt (s.data.toList.drop a) = if false = true then some (1, (s.data.toList.drop a).take (m - a), m - a) else none) := Lib.hid (by rw [ht]; rfl)
      clear W N hw hn ht
      go_enter Tryd.func38, Tryd.ntmps38
      go_wp2_with (first | (go_at_call 50; refine (KK1.out _).mono ?_; rintro e w' ⟨rfl, rfl⟩) | (go_at_call 64; refine (RR.out _).mono ?_; rintro e w' ⟨rfl, rfl⟩) | (go_at_call 27; refine (WW.out _).mono ?_; rintro e w1 ⟨rfl, hb⟩; have hb1 := Lib.hid hb; clear hb) | (go_at_call 26; refine (NN.out _).mono ?_; rintro e w2 ⟨rfl, hb⟩; have hbb := Lib.hid (new1_then' (hb1.out.trans (hb.mono hb1.out.size))); obtain ⟨x0, x1, x2, y0, y1, y2, hz⟩ := keep3' (hb1.out.trans (hb.mono hb1.out.size)); clear hb))
      exact bodyPost_ret (v := .tuple #[.agg #[.int .i64 1, .string (s.extract a m), .int .i64 a], .int .i64 m, .bool false]) (by simp [results, Tryd.results38, go_sem, x0, x1, x2]) rfl (RToken.mk ham HT.out (by repeat (first | exact hbb.out | refine Below.setCell ?_ (by simp) _)))
    · rw [hn] at N ht
      have NN := Lib.hid N
      have HT : Hid (Lx.tokenAt (s.data.toList.drop a) = if true = true then some (1, (s.data.toList.drop a).take (m - a), m - a) else none) := Lib.hid (by rw [ht]; rfl)
      clear W N hw hn ht
      go_enter Tryd.func38, Tryd.ntmps38
      go_wp2_with (first | (go_at_call 50; refine (KK1.out _).mono ?_; rintro e w' ⟨rfl, rfl⟩) | (go_at_call 64; refine (RR.out _).mono ?_; rintro e w' ⟨rfl, rfl⟩) | (go_at_call 27; refine (WW.out _).mono ?_; rintro e w1 ⟨rfl, hb⟩; have hb1 := Lib.hid hb; clear hb) | (go_at_call 26; refine (NN.out _).mono ?_; rintro e w2 ⟨rfl, hb⟩; have hbb := Lib.hid (new1_then' (hb1.out.trans (hb.mono hb1.out.size))); obtain ⟨x0, x1, x2, y0, y1, y2, hz⟩ := keep3' (hb1.out.trans (hb.mono hb1.out.size)); clear hb))
      exact bodyPost_ret (v := .tuple #[.agg #[.int .i64 1, .string (s.extract a m), .int .i64 a], .int .i64 m, .bool true]) (by simp [results, Tryd.results38, go_sem, x0, x1, x2]) rfl (RToken.mk ham HT.out (by repeat (first | exact hbb.out | refine Below.setCell ?_ (by simp) _)))
  · rw [hw] at W ht
    have WW := Lib.hid W
    have HT : Hid (Lx.tokenAt (s.data.toList.drop a) = if true = true then some (5, (s.data.toList.drop a).take (m - a), m - a) else none) := Lib.hid (by rw [ht]; rfl)
    clear W N hw ht
    go_enter Tryd.func38, Tryd.ntmps38
    go_wp2_with (first | (go_at_call 50; refine (KK1.out _).mono ?_; rintro e w' ⟨rfl, rfl⟩) | (go_at_call 64; refine (RR.out _).mono ?_; rintro e w' ⟨rfl, rfl⟩) | (go_at_call 27; refine (WW.out _).mono ?_; rintro e w1 ⟨rfl, hb⟩; have hbb := Lib.hid (new1_then' hb); obtain ⟨x0, x1, x2, y0, y1, y2, hz⟩ := keep3' hb; clear hb))
    exact bodyPost_ret (v := .tuple #[.agg #[.int .i64 5, .string (s.extract a m), .int .i64 a], .int .i64 m, .bool true]) (by simp [results, Tryd.results38, go_sem, x0, x1, x2]) rfl (RToken.mk ham HT.out (by repeat (first | exact hbb.out | refine Below.setCell ?_ (by simp) _)))

set_option maxRecDepth 100000 in
set_option maxHeartbeats 1600000 in
theorem rtoken_digit (s : ByteArray) (a : Nat) (w : World) (hs : s.size < 4294967281) (ha : a < s.size) (hl : Lx.isLetter (s[a]'ha) = false) (hd : Lx.isDigit (s[a]'ha) = true) :
    Calls Tryd.prog 38 #[.string s, .int .i64 a] w (RToken s a w) := by
  have hr : s.data.toList.drop a = (s[a]'ha) :: (s.data.toList.drop a).tail := by
    rw [Lx.drop_at _ _ (by rw [list_len]; exact ha)]; rfl
  have ht := Lx.tokenAt_digit hr hl hd
  have K1 := rletter_any (s[a]'ha)
  rw [hl] at K1
  have K2 := rdigit_any (s[a]'ha)
  rw [hd] at K2
  have R := fun w => rrun_digit s a w (by omega) (by omega)
  have hle := Lx.run_le Lx.isDigit (s.data.toList.drop a)
  rw [List.length_drop, list_len] at hle
  generalize hm : Lx.run Lx.isDigit (s.data.toList.drop a) = n0 at *
  obtain ⟨m, hm2⟩ : ∃ m, m = a + n0 := ⟨_, rfl⟩
  rw [← hm2] at R
  have hms : m ≤ s.size := by omega
  have ham : a ≤ m := by omega
  rw [show n0 = m - a by omega] at ht
  have N := fun w => rIsNumeral_any (s.extract a m) w (by simp; omega)
  rw [piece_list] at N
  have KK1 := Lib.hid K1
  have KK2 := Lib.hid K2
  have RR := Lib.hid R
  have h0 : 0 ≤ (a : Int) := by omega
  have h1 : (a : Int) ≤ m := by omega
  have h2 : (m : Int) ≤ s.size := by omega
  clear K1 K2 R hm hm2 hle hr hl hd
  cases hw : Lx.isNumeral ((s.data.toList.drop a).take (m - a))
  · rw [hw] at N ht
    have NN := Lib.hid N
    have HT : Hid (Lx.tokenAt (s.data.toList.drop a) = if false = true then some (2, (s.data.toList.drop a).take (m - a), m - a) else none) := Lib.hid (by rw [ht])
    clear N hw ht
    go_enter Tryd.func38, Tryd.ntmps38
    go_wp2_with (first | (go_at_call 50; refine (KK1.out _).mono ?_; rintro e w' ⟨rfl, rfl⟩) | (go_at_call 51; refine (KK2.out _).mono ?_; rintro e w' ⟨rfl, rfl⟩) | (go_at_call 64; refine (RR.out _).mono ?_; rintro e w' ⟨rfl, rfl⟩))
    go_region_with (go_at_call 56; refine (NN.out _).mono ?_; rintro e w' ⟨rfl, rfl⟩)
    all_goals go_wp2
    all_goals exact bodyPost_ret (v := .tuple #[.agg #[.int .i64 2, .string (s.extract a m), .int .i64 a], .int .i64 m, .bool false]) (by simp [results, Tryd.results38, go_sem]) rfl (RToken.mk ham HT.out (by repeat (first | exact new1 _ _ _ | refine Below.setCell ?_ (by simp) _)))
  · rw [hw] at N ht
    have NN := Lib.hid N
    have HT : Hid (Lx.tokenAt (s.data.toList.drop a) = if true = true then some (2, (s.data.toList.drop a).take (m - a), m - a) else none) := Lib.hid (by rw [ht])
    clear N hw ht
    go_enter Tryd.func38, Tryd.ntmps38
    go_wp2_with (first | (go_at_call 50; refine (KK1.out _).mono ?_; rintro e w' ⟨rfl, rfl⟩) | (go_at_call 51; refine (KK2.out _).mono ?_; rintro e w' ⟨rfl, rfl⟩) | (go_at_call 64; refine (RR.out _).mono ?_; rintro e w' ⟨rfl, rfl⟩))
    go_region_with (go_at_call 56; refine (NN.out _).mono ?_; rintro e w' ⟨rfl, rfl⟩)
    all_goals go_wp2
    all_goals exact bodyPost_ret (v := .tuple #[.agg #[.int .i64 2, .string (s.extract a m), .int .i64 a], .int .i64 m, .bool true]) (by simp [results, Tryd.results38, go_sem]) rfl (RToken.mk ham HT.out (by repeat (first | exact new1 _ _ _ | refine Below.setCell ?_ (by simp) _)))

set_option maxRecDepth 100000 in
set_option maxHeartbeats 1600000 in
theorem rtoken_quote (s : ByteArray) (a : Nat) (w : World) (hs : s.size < 4294967281) (ha : a < s.size) (hq : (s[a]'ha).toNat = 34) :
    Calls Tryd.prog 38 #[.string s, .int .i64 a] w (RToken s a w) := by
  have hr : s.data.toList.drop a = (s[a]'ha) :: (s.data.toList.drop a).tail := by
    rw [Lx.drop_at _ _ (by rw [list_len]; exact ha)]; rfl
  have HT := Lib.hid (Lx.tokenAt_quote hr hq)
  obtain ⟨hl, hd⟩ := Lx.letter_34 hq
  have K1 := rletter_any (s[a]'ha)
  rw [hl] at K1
  have K2 := rdigit_any (s[a]'ha)
  rw [hd] at K2
  have KK1 := Lib.hid K1
  have KK2 := Lib.hid K2
  have QQ := Lib.hid (fun w => rquote_any s a w hs ha hq)
  have b1 : (((s[a]'ha).toNat : Int) == 34) = true := ibeq_t (by omega)
  clear K1 K2 hr hl hd hq
  go_enter Tryd.func38, Tryd.ntmps38
  go_wp2_with (first | (go_at_call 50; refine (KK1.out _).mono ?_; rintro e w' ⟨rfl, rfl⟩) | (go_at_call 51; refine (KK2.out _).mono ?_; rintro e w' ⟨rfl, rfl⟩) | (go_at_call 65; refine (QQ.out _).mono ?_; rintro e w1 ⟨t, n, ok, rfl, g1, g2, hb⟩; have HG := Lib.hid (And.intro g1 g2); clear g1 g2; have hbb := Lib.hid (new1_then' hb); obtain ⟨x0, x1, x2, y0, y1, y2, hz⟩ := keep3' hb; clear hb))
  have HG' : Hid ((ok = true → a ≤ n ∧ Lx.tokenAt (s.data.toList.drop a) = some (3, t, n - a)) ∧ (ok = false → Lx.tokenAt (s.data.toList.drop a) = none)) := Lib.hid (by rw [HT.out]; exact HG.out)
  exact bodyPost_ret (v := .tuple #[.agg #[.int .i64 3, .string ⟨t.toArray⟩, .int .i64 a], .int .i64 n, .bool ok]) (by simp [results, Tryd.results38, go_sem, x0, x1, x2]) rfl ⟨3, t, n, ok, rfl, HG'.out.1, HG'.out.2, by repeat (first | exact hbb.out | refine Below.setCell ?_ (by simp) _)⟩

namespace Lx
theorem signTok_two {s : List UInt8} {a : Nat} (h : a + 2 ≤ s.length) (hs : isSign ((s.drop a).take 2) = true) : signTok (s.drop a) = some (4, (s.drop a).take 2, 2) := by
  unfold signTok
  rw [if_pos ⟨by rw [List.length_drop]; omega, hs⟩]
theorem signTok_one {s : List UInt8} {a : Nat} (ha : a < s.length) (h : a + 2 ≤ s.length → isSign ((s.drop a).take 2) = false) : signTok (s.drop a) = if isSign ((s.drop a).take 1) = true then some (4, (s.drop a).take 1, 1) else none := by
  unfold signTok
  rw [if_neg]
  · have e : 1 ≤ (s.drop a).length := by rw [List.length_drop]; omega
    simp only [e, true_and]
  · rintro ⟨h1, h2⟩
    rw [List.length_drop] at h1
    rw [h (by omega)] at h2; cases h2
end Lx

set_option maxRecDepth 100000 in
set_option maxHeartbeats 1600000 in
theorem rtoken_sign (s : ByteArray) (a : Nat) (w : World) (hs : s.size < 4294967281) (ha : a < s.size) (hl : Lx.isLetter (s[a]'ha) = false) (hd : Lx.isDigit (s[a]'ha) = false) (hq : ¬ (s[a]'ha).toNat = 34) :
    Calls Tryd.prog 38 #[.string s, .int .i64 a] w (RToken s a w) := by
  have hr : s.data.toList.drop a = (s[a]'ha) :: (s.data.toList.drop a).tail := by
    rw [Lx.drop_at _ _ (by rw [list_len]; exact ha)]; rfl
  have ht := Lx.tokenAt_sign hr hl hd hq
  have K1 := rletter_any (s[a]'ha)
  rw [hl] at K1
  have K2 := rdigit_any (s[a]'ha)
  rw [hd] at K2
  have KK1 := Lib.hid K1
  have KK2 := Lib.hid K2
  have b1 : (((s[a]'ha).toNat : Int) == 34) = false := ibeq_f (by omega)
  have h0 : 0 ≤ (a : Int) := by omega
  have h1 : (a : Int) ≤ (a : Int) + 2 := by omega
  have HL : Hid (s.data.toList.length = s.size) := Lib.hid (list_len s)
  clear K1 K2 hr hl hd hq
  by_cases h2 : a + 2 ≤ s.size
  · have h3 : (a : Int) + 2 ≤ s.size := by omega
    have W := fun w => rIsSign_any (s.extract a (a + 2)) w
    rw [piece_list, show a + 2 - a = 2 by omega] at W
    have n2 : ((a : Int) + 2).toNat = a + 2 := by omega
    cases hw : Lx.isSign ((s.data.toList.drop a).take 2)
    · have h4 : (a : Int) ≤ (a : Int) + 1 := by omega
      have h5 : (a : Int) + 1 ≤ s.size := by omega
      have n1 : ((a : Int) + 1).toNat = a + 1 := by omega
      have W1 := fun w => rIsSign_any (s.extract a (a + 1)) w
      rw [piece_list, show a + 1 - a = 1 by omega] at W1
      have HT : Hid (Lx.tokenAt (s.data.toList.drop a) = if Lx.isSign ((s.data.toList.drop a).take 1) = true then some (4, (s.data.toList.drop a).take (a + 1 - a), a + 1 - a) else none) := Lib.hid (by rw [ht, Lx.signTok_one (by rw [HL.out]; exact ha) (fun _ => hw), show a + 1 - a = 1 by omega])
      rw [hw] at W
      generalize Lx.isSign ((s.data.toList.drop a).take 1) = ok at *
      have WW := Lib.hid W
      have WW1 := Lib.hid W1
      clear W W1 ht hw
      go_enter Tryd.func38, Tryd.ntmps38
      go_wp2_with (first | (go_at_call 50; refine (KK1.out _).mono ?_; rintro e w' ⟨rfl, rfl⟩) | (go_at_call 51; refine (KK2.out _).mono ?_; rintro e w' ⟨rfl, rfl⟩) | (go_at_call 57; refine (WW.out _).mono ?_; rintro e w1 ⟨rfl, hb⟩; have hbb := Lib.hid (new1_then' hb); obtain ⟨x0, x1, x2, y0, y1, y2, hz⟩ := keep3' hb; clear hb))
      have sw : IntKind.i64.wrap ((a : Int) + 1) = (a : Int) + 1 := IntWalk.i64_in _ (by omega)
      have X := Lib.hid (And.intro x0 (And.intro x1 (And.intro x2 (And.intro y0 (And.intro y1 y2)))))
      clear x0 x1 x2 y0 y1 y2
      go_region_with (go_at_call 57; refine (WW1.out _).mono ?_; rintro e w2 ⟨rfl, hb⟩; have hb2 := Lib.hid (hbb.out.trans ((below_drewN (Below.refl _ _) 1).trans (hb.mono (by first | exact Nat.le_refl _ | simp)) |>.mono hbb.out.size)); have x0 := (hb.cell (p := ⟨w.heap.size, 0, none⟩) hz).trans X.out.1; have x1 := (hb.cell (p := ⟨w.heap.size, 1, none⟩) hz).trans X.out.2.1; have x2 := (hb.cell (p := ⟨w.heap.size, 2, none⟩) hz).trans X.out.2.2.1; have y0 := (hb.frozen (p := ⟨w.heap.size, 0, none⟩) hz).trans X.out.2.2.2.1; have y1 := (hb.frozen (p := ⟨w.heap.size, 1, none⟩) hz).trans X.out.2.2.2.2.1; have y2 := (hb.frozen (p := ⟨w.heap.size, 2, none⟩) hz).trans X.out.2.2.2.2.2; have hz2 : w.heap.size < w2.heap.size := Nat.lt_of_lt_of_le hz hb.size; clear hb)
      all_goals go_wp2
      all_goals
        have e := RToken.mk (s := s) (k := 4) (ok := ok) (w := w) (w' := w1) (show a ≤ a + 1 by omega) HT.out hbb.out
        rw [show ((a + 1 : Nat) : Int) = (a : Int) + 1 by omega] at e
        exact bodyPost_ret (v := .tuple #[.agg #[.int .i64 4, .string (s.extract a (a + 1)), .int .i64 a], .int .i64 ((a : Int) + 1), .bool ok]) (by simp [results, Tryd.results38, go_sem, x0, x1, x2]) rfl (RToken.turn e (by repeat (first | exact hb2.out | refine Below.setCell ?_ (by simp) _)))
    · have HT : Hid (Lx.tokenAt (s.data.toList.drop a) = some (4, (s.data.toList.drop a).take (a + 2 - a), a + 2 - a)) := Lib.hid (by rw [ht, Lx.signTok_two (by rw [HL.out]; exact h2) hw, show a + 2 - a = 2 by omega])
      rw [hw] at W
      have WW := Lib.hid W
      clear W hw ht
      go_enter Tryd.func38, Tryd.ntmps38
      go_wp2_with (first | (go_at_call 50; refine (KK1.out _).mono ?_; rintro e w' ⟨rfl, rfl⟩) | (go_at_call 51; refine (KK2.out _).mono ?_; rintro e w' ⟨rfl, rfl⟩) | (go_at_call 57; refine (WW.out _).mono ?_; rintro e w1 ⟨rfl, hb⟩; have hbb := Lib.hid (new1_then' hb); obtain ⟨x0, x1, x2, y0, y1, y2, hz⟩ := keep3' hb; clear hb))
      have e := RToken.mk (s := s) (k := 4) (ok := true) (w := w) (w' := w1) (show a ≤ a + 2 by omega) (HT.out.trans (by rfl)) hbb.out
      rw [show ((a + 2 : Nat) : Int) = (a : Int) + 2 by omega] at e
      exact bodyPost_ret (v := .tuple #[.agg #[.int .i64 4, .string (s.extract a (a + 2)), .int .i64 a], .int .i64 ((a : Int) + 2), .bool true]) (by simp [results, Tryd.results38, go_sem, x0, x1, x2]) rfl (RToken.turn e (by repeat (first | exact hbb.out | refine Below.setCell ?_ (by simp) _)))
  · have h3 : ¬ (a : Int) + 2 ≤ s.size := by omega
    have h4 : (a : Int) ≤ (a : Int) + 1 := by omega
    have h5 : (a : Int) + 1 ≤ s.size := by omega
    have n1 : ((a : Int) + 1).toNat = a + 1 := by omega
    have W := fun w => rIsSign_any (s.extract a (a + 1)) w
    rw [piece_list, show a + 1 - a = 1 by omega] at W
    have HT : Hid (Lx.tokenAt (s.data.toList.drop a) = if Lx.isSign ((s.data.toList.drop a).take 1) = true then some (4, (s.data.toList.drop a).take (a + 1 - a), a + 1 - a) else none) := Lib.hid (by rw [ht, Lx.signTok_one (by rw [HL.out]; exact ha) (fun h => absurd h (by rw [HL.out]; omega)), show a + 1 - a = 1 by omega])
    generalize Lx.isSign ((s.data.toList.drop a).take 1) = ok at *
    have WW := Lib.hid W
    clear W ht
    go_enter Tryd.func38, Tryd.ntmps38
    go_wp2_with (first | (go_at_call 50; refine (KK1.out _).mono ?_; rintro e w' ⟨rfl, rfl⟩) | (go_at_call 51; refine (KK2.out _).mono ?_; rintro e w' ⟨rfl, rfl⟩))
    have sw : IntKind.i64.wrap ((a : Int) + 1) = (a : Int) + 1 := IntWalk.i64_in _ (by omega)
    go_region_with (go_at_call 57; refine (WW.out _).mono ?_; rintro e w1 ⟨rfl, hb⟩; have hbb := Lib.hid (new1_then (n := 1) hb); obtain ⟨x0, x1, x2, y0, y1, y2, hz⟩ := keep3 (n := 1) hb; clear hb)
    all_goals go_wp2
    all_goals
      have e := RToken.mk (s := s) (k := 4) (ok := ok) (w := w) (w' := w1) (show a ≤ a + 1 by omega) HT.out hbb.out
      rw [show ((a + 1 : Nat) : Int) = (a : Int) + 1 by omega] at e
      exact bodyPost_ret (v := .tuple #[.agg #[.int .i64 4, .string (s.extract a (a + 1)), .int .i64 a], .int .i64 ((a : Int) + 1), .bool ok]) (by simp [results, Tryd.results38, go_sem, x0, x1, x2]) rfl (RToken.turn e (by repeat (first | exact hbb.out | refine Below.setCell ?_ (by simp) _)))

theorem rtoken_any (s : ByteArray) (a : Nat) (w : World) (hs : s.size < 4294967281) (ha : a < s.size) :
    Calls Tryd.prog 38 #[.string s, .int .i64 a] w (RToken s a w) := by
  cases hl : Lx.isLetter (s[a]'ha)
  · cases hd : Lx.isDigit (s[a]'ha)
    · by_cases hq : (s[a]'ha).toNat = 34
      · exact rtoken_quote s a w hs ha hq
      · exact rtoken_sign s a w hs ha hl hd hq
    · exact rtoken_digit s a w hs ha hl hd
  · exact rtoken_letter s a w hs ha hl

end Go.Proofs.YtbhknpombmdhiaaDoor
