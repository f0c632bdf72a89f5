/- What the scanner's methods word and numeral return: the token that begins at the scanner's position, if it is a word, a name or a numeral. -/
import Derived.Test.YtbhknpombmdhiaaDoorHelp
namespace Go.Proofs.YtbhknpombmdhiaaDoor
open Go.RowKit

set_option maxRecDepth 100000 in
set_option maxHeartbeats 400000 in
theorem word_any (S : Nat) (src : ByteArray) (a : Nat) (w : World) (hs : src.size < 4294967281) (ha : a < src.size) (c0 : w.cell? ⟨S, 0, none⟩ = some (.string src)) (c1 : w.cell? ⟨S, 1, none⟩ = some (.int .i64 a)) (henv : Env w) :
    Calls Tryd.prog 58 #[.pointer (some ⟨S, 0, none⟩)] w fun e w' => e = .returned (tokV (Lx.wordTok (src.data.toList.drop a))) ∧ Below w.heap.size w w' := by
  have hS := size_of_cell c0
  obtain ⟨⟨m, hm⟩, _, h8⟩ := henv
  have c0' : ∀ o, (w.alloc o).cell? ⟨S, 0, none⟩ = some (.string src) := fun o => by rw [World.cell?_alloc_past _ _ _ hS]; exact c0
  have c1' : ∀ o, (w.alloc o).cell? ⟨S, 1, none⟩ = some (.int .i64 a) := fun o => by rw [World.cell?_alloc_past _ _ _ hS]; exact c1
  have M2 : Hid (∀ o n, ((w.alloc o).drewN n).cell? ⟨2, 0, none⟩ = some (.int .i64 m)) := Lib.hid fun o n => (show (w.alloc o).cell? ⟨2, 0, none⟩ = _ by rw [World.cell?_alloc_past _ _ _ (by show 2 < w.heap.size; omega)]; exact hm)
  have h0 : 0 ≤ (a : Int) := by omega
  have h1 : (a : Int) ≤ src.size := by omega
  have hr0 : 0 < (src.extract a src.size).size := by rw [rest_size]; omega
  have hrs : (src.extract a src.size).size ≤ 9223372036854775807 := by rw [rest_size]; omega
  have K := fun w => isLetter_any (src.extract a src.size)[0] w
  have R := fun w => run_isLD (src.extract a src.size) w hrs
  have hle := Lx.run_le Lx.isLD (src.extract a src.size).data.toList
  rw [list_len, rest_size] at hle
  have hl0 := list_of_size hr0
  rw [rest_list] at hl0 hle R
  generalize hc : (src.extract a src.size)[0] = c at *
  have hW : Lx.wordTok (src.data.toList.drop a) = if Lx.isLetter c then if Lx.isWord ((src.data.toList.drop a).take (Lx.run Lx.isLD (src.data.toList.drop a))) then some (5, (src.data.toList.drop a).take (Lx.run Lx.isLD (src.data.toList.drop a)), Lx.run Lx.isLD (src.data.toList.drop a)) else if Lx.isName ((src.data.toList.drop a).take (Lx.run Lx.isLD (src.data.toList.drop a))) then some (1, (src.data.toList.drop a).take (Lx.run Lx.isLD (src.data.toList.drop a)), Lx.run Lx.isLD (src.data.toList.drop a)) else none else none := by
    have : ∀ r : List UInt8, r = c :: r.tail → Lx.wordTok r = if Lx.isLetter c then if Lx.isWord (r.take (Lx.run Lx.isLD r)) then some (5, r.take (Lx.run Lx.isLD r), Lx.run Lx.isLD r) else if Lx.isName (r.take (Lx.run Lx.isLD r)) then some (1, r.take (Lx.run Lx.isLD r), Lx.run Lx.isLD r) else none else none := fun r e => by rw [e]; rfl
    exact this _ hl0
  rw [hW]
  have HC := Lib.hid hc
  clear hW hl0 hc
  generalize hn : Lx.run Lx.isLD (src.data.toList.drop a) = n at *
  have hns : ((src.extract a src.size).extract 0 n).size < 4294967281 := by simp; omega
  have W := fun w hm => isWord_any ((src.extract a src.size).extract 0 n) w m hns hm
  have N := fun w hm => isName_any ((src.extract a src.size).extract 0 n) w m hns hm
  have ht : (⟨((src.data.toList.drop a).take n).toArray⟩ : ByteArray) = (src.extract a src.size).extract 0 n := WideShapes.bytes_inj (by rw [head_list, rest_list])
  rw [head_list, rest_list] at W N
  have HT := Lib.hid ht
  clear ht hn
  cases hl : Lx.isLetter c
  · rw [hl] at K
    have KK := Lib.hid K
    clear K R W N hl
    simp only [Bool.false_eq_true, if_false]
    go_enter Tryd.func58, Tryd.ntmps58
    go_wp2_with fail
    go_quiet (fail)
    go_wp2_with (first | (go_at_call 47; rw [HC.out]; refine (KK.out _).mono ?_; rintro e w' ⟨rfl, rfl⟩))
    exact bodyPost_ret (v := tokV none) (by simp [results, Tryd.results58, go_sem, tokV]) rfl ⟨rfl, (by repeat (first | exact new1 _ _ _ | refine Below.setCell ?_ (by simp) _))⟩
  · rw [hl] at K
    have KK := Lib.hid K
    have RR := Lib.hid R
    clear K R hl
    simp only [if_true]
    cases hw : Lx.isWord ((src.data.toList.drop a).take n)
    · rw [hw] at W
      have WW := Lib.hid W
      cases hnm : Lx.isName ((src.data.toList.drop a).take n)
      · rw [hnm] at N
        have NN := Lib.hid N
        clear W N hw hnm
        simp only [Bool.false_eq_true, if_false]
        go_enter Tryd.func58, Tryd.ntmps58
        go_wp2_with fail
        go_quiet (fail)
        go_wp2_with (first | (go_at_call 47; rw [HC.out]; refine (KK.out _).mono ?_; rintro e w' ⟨rfl, rfl⟩) | (go_at_call 48; refine (RR.out _).mono ?_; rintro e w' ⟨rfl, rfl⟩) | (go_at_call 24; refine (WW.out _ (M2.out _ _)).mono ?_; rintro e w' ⟨rfl, rfl⟩) | (go_at_call 25; refine (NN.out _ (M2.out _ _)).mono ?_; rintro e w' ⟨rfl, rfl⟩))
        exact bodyPost_ret (v := tokV none) (by simp [results, Tryd.results58, go_sem, tokV]) rfl ⟨rfl, (by repeat (first | exact new1 _ _ _ | refine Below.setCell ?_ (by simp) _))⟩
      · rw [hnm] at N
        have NN := Lib.hid N
        clear W N hw hnm
        simp only [Bool.false_eq_true, if_false, if_true]
        go_enter Tryd.func58, Tryd.ntmps58
        go_wp2_with fail
        go_quiet (fail)
        go_wp2_with (first | (go_at_call 47; rw [HC.out]; refine (KK.out _).mono ?_; rintro e w' ⟨rfl, rfl⟩) | (go_at_call 48; refine (RR.out _).mono ?_; rintro e w' ⟨rfl, rfl⟩) | (go_at_call 24; refine (WW.out _ (M2.out _ _)).mono ?_; rintro e w' ⟨rfl, rfl⟩) | (go_at_call 25; refine (NN.out _ (M2.out _ _)).mono ?_; rintro e w' ⟨rfl, rfl⟩))
        exact bodyPost_ret (v := tokV (some (1, (src.data.toList.drop a).take n, n))) (by simp only [tokV, HT.out]; simp [results, Tryd.results58, go_sem]) rfl ⟨rfl, (by repeat (first | exact new1 _ _ _ | refine Below.setCell ?_ (by simp) _))⟩
    · rw [hw] at W
      have WW := Lib.hid W
      clear W N hw
      simp only [if_true]
      go_enter Tryd.func58, Tryd.ntmps58
      go_wp2_with fail
      go_quiet (fail)
      go_wp2_with (first | (go_at_call 47; rw [HC.out]; refine (KK.out _).mono ?_; rintro e w' ⟨rfl, rfl⟩) | (go_at_call 48; refine (RR.out _).mono ?_; rintro e w' ⟨rfl, rfl⟩) | (go_at_call 24; refine (WW.out _ (M2.out _ _)).mono ?_; rintro e w' ⟨rfl, rfl⟩))
      exact bodyPost_ret (v := tokV (some (5, (src.data.toList.drop a).take n, n))) (by simp only [tokV, HT.out]; simp [results, Tryd.results58, go_sem]) rfl ⟨rfl, (by repeat (first | exact new1 _ _ _ | refine Below.setCell ?_ (by simp) _))⟩

set_option maxRecDepth 100000 in
set_option maxHeartbeats 800000 in
theorem numeral_any (S : Nat) (src : ByteArray) (a : Nat) (w : World) (hs : src.size < 4294967281) (ha : a < src.size) (c0 : w.cell? ⟨S, 0, none⟩ = some (.string src)) (c1 : w.cell? ⟨S, 1, none⟩ = some (.int .i64 a)) (henv : Env w) :
    Calls Tryd.prog 59 #[.pointer (some ⟨S, 0, none⟩)] w fun e w' => e = .returned (tokV (Lx.numTok (src.data.toList.drop a))) ∧ Below w.heap.size w w' := by
  have hS := size_of_cell c0
  have c0' : ∀ o, (w.alloc o).cell? ⟨S, 0, none⟩ = some (.string src) := fun o => by rw [World.cell?_alloc_past _ _ _ hS]; exact c0
  have c1' : ∀ o, (w.alloc o).cell? ⟨S, 1, none⟩ = some (.int .i64 a) := fun o => by rw [World.cell?_alloc_past _ _ _ hS]; exact c1
  have M2 : Hid (∀ o n, Env ((w.alloc o).drewN n)) := Lib.hid fun o n => henv.below (n := w.heap.size) henv.2.2 (_root_.Go.below_drewN ((Below.refl _ _).alloc (Nat.le_refl _) _) _)
  have h0 : 0 ≤ (a : Int) := by omega
  have h1 : (a : Int) ≤ src.size := by omega
  have hrs : (src.extract a src.size).size ≤ 9223372036854775807 := by rw [rest_size]; omega
  have R := fun w => run_isDigit (src.extract a src.size) w hrs
  have hle := Lx.run_le Lx.isDigit (src.extract a src.size).data.toList
  rw [list_len, rest_size] at hle
  rw [rest_list] at hle R
  unfold Lx.numTok
  generalize hn : Lx.run Lx.isDigit (src.data.toList.drop a) = n at *
  have hns : ((src.extract a src.size).extract 0 n).size < 4294967281 := by simp; omega
  have N := fun w hm => isNumeral_any ((src.extract a src.size).extract 0 n) w hns hm
  have ht : (⟨((src.data.toList.drop a).take n).toArray⟩ : ByteArray) = (src.extract a src.size).extract 0 n := WideShapes.bytes_inj (by rw [head_list, rest_list])
  rw [head_list, rest_list] at N
  have HT := Lib.hid ht
  have RR := Lib.hid R
  clear ht hn R henv
  cases hnm : Lx.isNumeral ((src.data.toList.drop a).take n)
  · rw [hnm] at N
    have NN := Lib.hid N
    clear N hnm
    simp only [Bool.false_eq_true, if_false]
    go_enter Tryd.func59, Tryd.ntmps59
    go_wp2_with fail
    go_quiet (fail)
    go_wp2_with (first | (go_at_call 48; refine (RR.out _).mono ?_; rintro e w' ⟨rfl, rfl⟩) | (go_at_call 66; refine (NN.out _ (M2.out _ _)).mono ?_; rintro e w1 ⟨rfl, hb⟩; have hbb := Lib.hid (new1_then hb); obtain ⟨x0, x1, x2, y0, y1, y2, hz⟩ := keep3 hb; clear hb))
    exact bodyPost_ret (v := tokV none) (by simp [results, Tryd.results59, go_sem, tokV, x0, x1, x2]) rfl ⟨rfl, (by repeat (first | exact hbb.out | refine Below.setCell ?_ (by simp) _))⟩
  · rw [hnm] at N
    have NN := Lib.hid N
    clear N hnm
    simp only [if_true]
    go_enter Tryd.func59, Tryd.ntmps59
    go_wp2_with fail
    go_quiet (fail)
    go_wp2_with (first | (go_at_call 48; refine (RR.out _).mono ?_; rintro e w' ⟨rfl, rfl⟩) | (go_at_call 66; refine (NN.out _ (M2.out _ _)).mono ?_; rintro e w1 ⟨rfl, hb⟩; have hbb := Lib.hid (new1_then hb); obtain ⟨x0, x1, x2, y0, y1, y2, hz⟩ := keep3 hb; clear hb))
    exact bodyPost_ret (v := tokV (some (2, (src.data.toList.drop a).take n, n))) (by simp only [tokV, HT.out]; simp [results, Tryd.results59, go_sem, x0, x1, x2]) rfl ⟨rfl, (by repeat (first | exact hbb.out | refine Below.setCell ?_ (by simp) _))⟩

end Go.Proofs.YtbhknpombmdhiaaDoor
