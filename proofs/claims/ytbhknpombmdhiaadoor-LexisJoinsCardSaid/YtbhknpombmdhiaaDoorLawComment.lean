/- The statement LexisComment: it returns true for every two strings. -/
import Derived.Test.YtbhknpombmdhiaaDoorAwake
import Derived.Test.YtbhknpombmdhiaaDoorCat
import Derived.Deep.MidRow
import Derived.Deep.QuietTactic
import Derived.BigQuiet
namespace Go.Proofs.YtbhknpombmdhiaaDoor
open Go.RowKit

theorem own_below {W W' : World} {b n : Nat} {v : Value} {xs : List Value} (h : W.ownsRow b 47 3 v n xs) (hb : Below W.heap.size W W') : W'.ownsRow b 47 3 v n xs := by
  refine ⟨h.1, ?_⟩
  rcases h.2 with h0 | ⟨g, cap, cur, e, hbg, hg, r⟩
  · exact .inl h0
  · exact .inr ⟨g, cap, cur, e, hbg, (hb.block g (Array.getElem?_eq_some_iff.1 hg).1).trans hg, r⟩

theorem cellsT_get : ∀ (l : List Lx.Tok) (j : Nat) (h : j < l.length), (cellsT l)[j * 3]? = some (.int .i64 (l[j]'h).1) ∧ (cellsT l)[j * 3 + 1]? = some (.string ⟨(l[j]'h).2.1.toArray⟩) ∧ (cellsT l)[j * 3 + 2]? = some (.int .i64 ((l[j]'h).2.2 : Nat))
  | [], j, h => by simp at h
  | x :: l, 0, h => ⟨rfl, rfl, rfl⟩
  | x :: l, j + 1, h => by
    have i := cellsT_get l j (by simpa using h)
    have e : cellsT (x :: l) = cells3 x ++ cellsT l := rfl
    have hl : (cells3 x).length = 3 := rfl
    rw [e, List.getElem?_append_right (by rw [hl]; omega), List.getElem?_append_right (by rw [hl]; omega), List.getElem?_append_right (by rw [hl]; omega), hl]
    have e1 : (j + 1) * 3 - 3 = j * 3 := by omega
    have e2 : (j + 1) * 3 + 1 - 3 = j * 3 + 1 := by omega
    have e3 : (j + 1) * 3 + 2 - 3 = j * 3 + 2 := by omega
    rw [e1, e2, e3]
    exact i

theorem row_cells {W : World} {b g n cap : Nat} {l : List Lx.Tok} (h : W.ownsRow b 47 3 (.slice (some ⟨g, 0, none⟩) n cap) n (cellsT l)) (j : Nat) (hj : j < l.length) (hn : l.length = n) :
    W.cell? ⟨g, j * 3, none⟩ = some (.int .i64 (l[j]'hj).1) ∧ W.cell? ⟨g, j * 3 + 1, none⟩ = some (.string ⟨(l[j]'hj).2.1.toArray⟩) ∧ W.cell? ⟨g, j * 3 + 2, none⟩ = some (.int .i64 ((l[j]'hj).2.2 : Nat)) := by
  obtain ⟨a, b, c⟩ := cellsT_get l j hj
  refine ⟨(h.cellAt _ (by omega)).trans a, (h.cellAt _ (by omega)).trans b, (h.cellAt _ (by omega)).trans c⟩

theorem row_form {W : World} {b n : Nat} {v : Value} {xs : List Value} (h : W.ownsRow b 47 3 v n xs) (hn : 0 < n) : ∃ g cap, v = .slice (some ⟨g, 0, none⟩) n cap ∧ n ≤ cap ∧ cap ≤ maxLen := by
  rcases h.2 with ⟨_, h0⟩ | ⟨g, cap, cur, e, hbg, hg, h1, h2, _⟩
  · omega
  · exact ⟨g, cap, e, h1, h2⟩

set_option maxRecDepth 100000 in
set_option maxHeartbeats 3000000 in
theorem law_comment (s c : ByteArray) (w : World) (ws : s.size ≤ maxLen) (wc : c.size ≤ maxLen) (henv : Env w) :
    Calls Tryd.prog 10 #[.string s, .string c] w fun e w' => e = .returned (.bool true) ∧ Below w.heap.size w w' := by
  unfold maxLen at ws wc
  obtain ⟨m, hm⟩ : ∃ m : Nat, m = min s.size 3900 := ⟨_, rfl⟩
  have hmi : min (s.size : Int) 3900 = (m : Int) := by omega
  have hm4 : m ≤ 3900 := by omega
  have hms : m ≤ s.size := by omega
  have HTS : Hid ((s.extract 0 m).size = m) := Lib.hid (by simp; omega)
  have HE := Lib.hid henv
  clear henv hm
  go_enter Tryd.func10, Tryd.ntmps10
  go_wp2_with fail
  go_loop [6, 7] (fun v i => ∃ (k : Nat) (cb : ByteArray), k ≤ c.size ∧ k ≤ 50 ∧ i = .int .i64 k ∧ v = .string cb ∧ cb.size ≤ k + 1 ∧ 1 ≤ cb.size ∧ Hid (∃ cc, cb.data.toList = 35 :: cc ∧ cc.all Lx.notLF = true)) (fun _ i => c.size - (intOf i).toNat)
  case atStart => exact ⟨0, ⟨#[35]⟩, by omega, by omega, rfl, rfl, by decide, by decide, Lib.hid ⟨[], rfl, rfl⟩⟩
  case round =>
    obtain ⟨k, cb, hk, hk50, rfl, rfl, hcs, hcs1, hQ⟩ := hrel
    by_cases hlt : k < c.size ∧ k < 50
    · obtain ⟨hlt, hlt50⟩ := hlt
      by_cases h10 : ((c[k]'hlt).toNat : Int) = 10
      · have b1 : (((c[k]'hlt).toNat : Int) == 10) = true := ibeq_t h10
        have b2 : (((c[k]'hlt).toNat : Int) != 10) = false := by rw [bne, b1]; rfl
        clear h10
        go_wp2
        go_round
        case rel => exact ⟨k + 1, cb, by omega, by omega, by go_num, rfl, by omega, hcs1, hQ⟩
        case measure => simp [intOf]; omega
      · have b1 : (((c[k]'hlt).toNat : Int) == 10) = false := ibeq_f h10
        have b2 : (((c[k]'hlt).toNat : Int) != 10) = true := by rw [bne, b1]; rfl
        have hl1 : (c.extract k (k + 1)).data.toList = [c[k]'hlt] := by
          rw [ByteArray.data_extract, Array.toList_extract, List.extract_eq_take_drop, List.drop_eq_getElem_cons (by rw [list_len]; exact hlt)]
          simp; rfl
        have hsz1 : (c.extract k (k + 1)).size = 1 := by rw [← list_len, hl1]; rfl
        have hQ' : Hid (∃ cc, (cb ++ c.extract k (k + 1)).data.toList = 35 :: cc ∧ cc.all Lx.notLF = true) := by
          obtain ⟨cc, e1, e2⟩ := hQ.out
          refine Lib.hid ⟨cc ++ [c[k]'hlt], ?_, ?_⟩
          · rw [ByteArray.data_append, Array.toList_append, e1, hl1]; rfl
          · rw [List.all_append, e2]
            simp [Lx.notLF]; omega
        have hsz2 : (cb ++ c.extract k (k + 1)).size = cb.size + 1 := by rw [ByteArray.size_append, hsz1]
        have HS2 := Lib.hid hsz2
        clear h10 hl1 hsz1 hQ hsz2
        go_wp2
        go_round
        case rel => exact ⟨k + 1, cb ++ c.extract k (k + 1), by omega, by omega, by go_num, rfl, by rw [HS2.out]; omega, by rw [HS2.out]; omega, hQ'⟩
        case measure => simp [intOf]; omega
    · have hsum : cb.size ≤ 51 := by omega
      have hT := tokens_any (s.extract 0 m) w HE.out (by rw [HTS.out]; omega)
      have HT := Lib.hid hT
      clear hT
      rcases (by omega : (k < c.size ∧ 50 ≤ k) ∨ c.size ≤ k) with ⟨hk1, hk2⟩ | hk1
      all_goals
        go_wp2_with fail
        refine HT.out.mono ?_
        rintro e w1 ⟨h0, hp, hb1⟩
        have HB1 := Lib.hid hb1
        have hE1 : Env w1 := HE.out.below HE.out.2.2 hb1
        have HE1 := Lib.hid hE1
        clear hb1 hE1
        cases hres : (Lx.tokens (s.extract 0 m).data.toList).2 with
        | none =>
          obtain ⟨v, rfl, hrow⟩ := h0 hres
          have HR := Lib.hid hres
          have HW := Lib.hid hrow
          clear h0 hp hres hrow
          obtain ⟨cc, hcb, hcc⟩ := hQ.out
          have hsz3 : (s.extract 0 m ++ cb ++ { data := #[10] } : ByteArray).size = m + cb.size + 1 := by
            rw [ByteArray.size_append, ByteArray.size_append, HTS.out]; rfl
          have hl3 : (s.extract 0 m ++ cb ++ { data := #[10] } : ByteArray).data.toList = (s.extract 0 m).data.toList ++ 35 :: (cc ++ [10]) := by
            rw [ByteArray.data_append, ByteArray.data_append, Array.toList_append, Array.toList_append, hcb]; simp
          have hT2 := tokens_any (s.extract 0 m ++ cb ++ { data := #[10] }) w1 HE1.out (by rw [hsz3]; omega)
          obtain ⟨pre, hl, h2⟩ := Lx.tokens_comment (l := (Lx.tokens (s.extract 0 m).data.toList).1) hcc (show Lx.tokens (s.extract 0 m).data.toList = _ from Prod.ext rfl HR.out)
          rw [← hl3, list_len, hsz3] at h2
          rw [list_len, HTS.out] at hl
          unfold TokPost at hT2
          rw [h2] at hT2
          have hrow := HW.out
          rw [hl] at hrow
          have HT2 := Lib.hid hT2
          have HRW := Lib.hid hrow
          clear hT2 hrow h2 hl hl3 hsz3 HW hcb HT
          go_wp2_with fail
          refine HT2.out.mono ?_
          rintro e w2 ⟨h0, -, hb2⟩
          obtain ⟨v2, rfl, hrow2⟩ := h0 trivial
          have hE2 : Env w2 := HE1.out.below HE1.out.2.2 hb2
          have HE2 := Lib.hid hE2
          have HB2 := Lib.hid hb2
          have hln : ∀ x : Lx.Tok, (pre ++ [x]).length = pre.length + 1 := fun x => by simp
          have hrow := HRW.out
          rw [hln] at hrow hrow2
          obtain ⟨g, cap, rfl, hgc, hgm⟩ := row_form hrow (by omega)
          obtain ⟨g2, cap2, rfl, hgc2, hgm2⟩ := row_form hrow2 (by omega)
          unfold maxLen at hgm hgm2
          have hr1 := own_below hrow hb2
          generalize hN : pre.length = N at *
          have HR1 := Lib.hid hr1
          have HR2 := Lib.hid hrow2
          have HN := Lib.hid hN
          clear h0 hb2 hE2 hr1 hrow hrow2 HRW hln hN
          go_wp2_with fail
          go_loopw [14] (fun i W => ∃ j n : Nat, j ≤ N ∧ i = .int .i64 j ∧ W = w2.drewN n) (fun i _ => N - (intOf i).toNat)
          case atStart => exact ⟨0, 0, Nat.zero_le _, rfl, rfl⟩
          case round =>
            obtain ⟨j, n, hj, rfl, rfl⟩ := hrel
            by_cases hlt : j < N
            · have hpj : j < pre.length := by rw [HN.out]; exact hlt
              have hl1 : j < (pre ++ [((6 : Int), ([] : List UInt8), m)]).length := by simp; omega
              have hl2 : j < (pre ++ [((6 : Int), ([] : List UInt8), m + cb.size + 1)]).length := by simp; omega
              obtain ⟨a0, a1, a2⟩ := row_cells HR1.out j hl1 (by simp [HN.out])
              obtain ⟨b0, b1, b2⟩ := row_cells HR2.out j hl2 (by simp [HN.out])
              simp only [List.getElem_append_left hpj] at a0 a1 a2 b0 b1 b2
              generalize pre[j] = x at *
              obtain ⟨x0, x1, x2⟩ := x
              simp only at a0 a1 a2 b0 b1 b2
              clear hl1 hl2 hpj
              go_wp2_with fail
              go_quiet (fail)
              go_wp2_with fail
              go_roundw
              case rel => exact ⟨j + 1, _, by omega, by go_num, rfl⟩
              case measure => simp [intOf]; omega
            · obtain rfl : j = N := by omega
              have hl2 : j < (pre ++ [((6 : Int), ([] : List UInt8), m + cb.size + 1)]).length := by
                have := HN.out
                simp; omega
              obtain ⟨-, -, b2⟩ := row_cells HR2.out j hl2 (by simp [HN.out])
              have b3 : w2.cell? ⟨g2, j * 3 + 2, none⟩ = some (.int .i64 ((m : Int) + cb.size + 1)) := by
                rw [b2]
                have e : (pre ++ [((6 : Int), ([] : List UInt8), m + cb.size + 1)])[j]'hl2 = ((6 : Int), ([] : List UInt8), m + cb.size + 1) := by
                  simp [← HN.out]
                rw [e]; simp
              clear b2 hl2
              have hBd : Below w2.heap.size w2 (w2.drewN n) := below_drewN (Below.refl _ w2) n
              have hA := awake_any (w2.drewN n) (HE2.out.below HE2.out.2.2 hBd)
              have HA := Lib.hid hA
              have hBall : Below w.heap.size w (w2.drewN n) := HB1.out.trans ((HB2.out.mono HB1.out.size).trans (hBd.mono (Nat.le_trans HB1.out.size HB2.out.size)))
              have HB := Lib.hid hBall
              clear hA hBd hBall
              go_wp2_with fail
              all_goals
                refine HA.out.mono ?_
                rintro e w3 ⟨rfl, hb3⟩
                have HB3 := Lib.hid hb3
                clear hb3
                go_wp2_with fail
                go_ret
                exact ⟨rfl, HB.out.trans (HB3.out.mono HB.out.size)⟩
        | some p =>
          obtain rfl := hp p hres
          have HR := Lib.hid hres
          have hsz3 : (s.extract 0 m ++ cb ++ { data := #[10] } : ByteArray).size = m + cb.size + 1 := by
            rw [ByteArray.size_append, ByteArray.size_append, HTS.out]; rfl
          have hT2 := tokens_any (s.extract 0 m ++ cb ++ { data := #[10] }) w1 HE1.out (by rw [hsz3]; omega)
          have HT2 := Lib.hid hT2
          clear h0 hp hres hT2 hsz3 HT
          go_wp2_with fail
          refine HT2.out.mono ?_
          rintro e w2 ⟨h0, hp, hb2⟩
          have HB2 := Lib.hid hb2
          have hE2 : Env w2 := HE1.out.below HE1.out.2.2 hb2
          have HE2 := Lib.hid hE2
          clear hb2 hE2
          have hBall : Below w.heap.size w w2 := HB1.out.trans (HB2.out.mono HB1.out.size)
          have HB := Lib.hid hBall
          have HA := Lib.hid (awake_any w2 HE2.out)
          clear hBall
          cases hres2 : (Lx.tokens (s.extract 0 m ++ cb ++ { data := #[10] }).data.toList).2 with
          | none =>
            obtain ⟨v2, rfl, hrow2⟩ := h0 hres2
            clear h0 hp hres2 hrow2
            go_wp2_with fail
            refine HA.out.mono ?_
            rintro e w3 ⟨rfl, hb3⟩
            have HB3 := Lib.hid hb3
            clear hb3
            go_wp2_with fail
            go_ret
            exact ⟨rfl, HB.out.trans (HB3.out.mono HB.out.size)⟩
          | some q =>
            obtain rfl := hp q hres2
            clear h0 hp hres2
            go_wp2_with fail
            go_loop [14] (fun i => i = .int .i64 0) (fun _ => 0)
            case atStart => rfl
            case round =>
              obtain rfl := hrel
              go_wp2_with fail
              refine HA.out.mono ?_
              rintro e w3 ⟨rfl, hb3⟩
              have HB3 := Lib.hid hb3
              clear hb3
              go_wp2_with fail
              go_ret
              exact ⟨rfl, HB.out.trans (HB3.out.mono HB.out.size)⟩
end Go.Proofs.YtbhknpombmdhiaaDoor
