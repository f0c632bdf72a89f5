/- What the scanner's method quote returns: the text that stands in quotes at the scanner's position, if it is a quote. -/
import Derived.Test.YtbhknpombmdhiaaDoorHelp
import Derived.Test.YtbhknpombmdhiaaDoorQuo
import Derived.OwnWalk
import Derived.Maps.AppendAt
import Derived.Lib.BufferRead
namespace Go.Proofs.YtbhknpombmdhiaaDoor
open Go.RowKit

theorem info5 : (Tryd.prog.info? 5).map (fun i => (i.zero, i.size, i.bytes)) = some (some (.int .u8 0), 1, 1) := by kernel_rfl

theorem own_slice {w : World} {base e : Nat} {size : Nat} {v : Value} {n : Nat} {xs : List Value} (h : w.ownsRow base e size v n xs) : ∃ p cap, v = .slice p n cap := by
  rcases h.2 with ⟨rfl, rfl⟩ | ⟨g, cap, cur, rfl, _⟩
  · exact ⟨_, _, rfl⟩
  · exact ⟨_, _, rfl⟩

/-- The bytes of a slice that the call owns, as a string. -/
theorem conv_own {w : World} {base : Nat} {p : Option Addr} {cap : Nat} {l : List UInt8} (h : w.ownsRow base 5 1 (.slice p l.length cap) l.length (Lib.byteCells l)) :
    (convert 62 9 (.slice p l.length cap)).run Tryd.prog w = .ok (.string ⟨l.toArray⟩) w := by
  rcases h.2 with ⟨e, h0⟩ | ⟨g, cap', cur, e, _, hg, _, _, _, htk⟩
  · cases l with
    | nil =>
      obtain ⟨rfl, _⟩ : p = none ∧ cap = 0 := by simpa using e
      exact Lib.run_convert_nil_bytes w 62 9 5 _ Tryd.underlying62 Tryd.underlying5 Tryd.underlying9
    | cons c l => simp at h0
  · obtain ⟨rfl, rfl⟩ : p = some ⟨g, 0, none⟩ ∧ cap = cap' := by simpa using e
    exact run_convert_bytes_back w 62 9 5 ⟨g, 0, none⟩ cap l Tryd.underlying62 Tryd.underlying5 Tryd.underlying9 (Lib.bytes_of_row hg (by simpa using htk))

theorem snoc_cells (tx : List UInt8) (c : UInt8) : Lib.byteCells tx ++ [.int .u8 (c.toNat : Int)] = Lib.byteCells (tx ++ [c]) := by simp [Lib.byteCells]

theorem below_row {w w' : World} {B : Nat} {v : Value} {n : Nat} {xs : List Value} {o : Obj} (hown : w.ownsRow B 5 1 v n xs) (hB : B ≤ w.heap.size) (hg : (w.alloc o).grownBy w' v.ownBlock) : Below B w w' :=
  ((Below.refl B w).alloc hB o).grown hg (by rw [World.size_alloc]; omega) (fun k e => (hown.lt k e).1)

set_option maxRecDepth 100000 in
set_option maxHeartbeats 1600000 in
theorem quote_any (S : Nat) (src : ByteArray) (a : Nat) (w : World) (hs : src.size < 4294967281) (ha : a < src.size) (c0 : w.cell? ⟨S, 0, none⟩ = some (.string src)) (c1 : w.cell? ⟨S, 1, none⟩ = some (.int .i64 a)) :
    Calls Tryd.prog 60 #[.pointer (some ⟨S, 0, none⟩)] w fun e w' => e = .returned (tokV (Lx.quoteTok (src.data.toList.drop a))) ∧ Below w.heap.size w w' := by
  have hS := size_of_cell c0
  have c0' : ∀ o, (w.alloc o).cell? ⟨S, 0, none⟩ = some (.string src) := fun o => by rw [World.cell?_alloc_past _ _ _ hS]; exact c0
  have c1' : ∀ o, (w.alloc o).cell? ⟨S, 1, none⟩ = some (.int .i64 a) := fun o => by rw [World.cell?_alloc_past _ _ _ hS]; exact c1
  have h0 : 0 ≤ (a : Int) := by omega
  have h1 : (a : Int) ≤ src.size := by omega
  have hr0 : 0 < (src.extract a src.size).size := by rw [rest_size]; omega
  have hl0 := list_of_size hr0
  rw [rest_list] at hl0
  by_cases hq : (src.extract a src.size)[0].toNat = 34
  · have g1 : (((src.extract a src.size)[0].toNat : Int) == 34) = true := ibeq_t (by omega)
    have g2 : (((src.extract a src.size)[0].toNat : Int) != 34) = false := by rw [bne, g1]; rfl
    have HF : Hid (∀ tx k, Lx.quoteGo (src.data.toList.drop a).tail = some (tx, k) → Lx.quoteTok (src.data.toList.drop a) = if tx.length ≤ 60 then some (3, tx, k + 1) else none) := Lib.hid fun tx k h => Lx.quoteTok_some hl0 hq h
    have HNone : Hid (Lx.quoteGo (src.data.toList.drop a).tail = none → Lx.quoteTok (src.data.toList.drop a) = none) := Lib.hid Lx.quoteTok_none
    have hrl : (src.data.toList.drop a).length = src.size - a := by simp
    have HG : Hid (∀ k (h : k < src.size - a), (src.data.toList.drop a)[k]'(by rw [List.length_drop, list_len]; exact h) = (src.extract a src.size)[k]'(by rw [rest_size]; omega)) := Lib.hid fun k h => by
      have e := rest_list src a
      have : (src.extract a src.size)[k]'(by rw [rest_size]; omega) = (src.extract a src.size).data.toList[k]'(by rw [list_len, rest_size]; omega) := rfl
      rw [this]; simp only [e]
    have HRL := Lib.hid hrl
    clear hq hl0 hrl
    obtain ⟨i0, hi, hz0, hz1, hz2⟩ := info_parts info5
    have HI := Lib.hid hi; have HZ0 := Lib.hid hz0; have HZ1 := Lib.hid hz1; have HZ2 := Lib.hid hz2
    clear hi hz0 hz1 hz2
    go_enter Tryd.func60, Tryd.ntmps60
    go_wp2_with fail
    go_quiet (fail)
    go_wp2_with fail
    have hW0 := new1 w (.cells #[.int .i64 0, .string ⟨#[]⟩, .int .i64 0] 47) nq
    have hWz : ((w.alloc (.cells #[.int .i64 0, .string ⟨#[]⟩, .int .i64 0] 47)).drewN nq).heap.size = w.heap.size + 1 := World.size_alloc _ _
    have HW0 := Lib.hid hW0
    have K3 : Hid (∀ wr, Below (w.heap.size + 1) ((w.alloc (.cells #[.int .i64 0, .string ⟨#[]⟩, .int .i64 0] 47)).drewN nq) wr → wr.cell? ⟨w.heap.size, 0, none⟩ = some (.int .i64 0) ∧ wr.cell? ⟨w.heap.size, 1, none⟩ = some (.string ⟨#[]⟩) ∧ wr.cell? ⟨w.heap.size, 2, none⟩ = some (.int .i64 0) ∧
      wr.frozen? ⟨w.heap.size, 0, none⟩ = false ∧ wr.frozen? ⟨w.heap.size, 1, none⟩ = false ∧ wr.frozen? ⟨w.heap.size, 2, none⟩ = false ∧ w.heap.size < wr.heap.size) := Lib.hid fun wr h => keep3 (h.mono (Nat.le_of_eq hWz))
    have HZ := Lib.hid hWz
    clear hW0 hWz c0 c1 c0' c1'
    go_loopw [5, 6] (fun v i wr => ∃ (k : Nat) (tx : List UInt8), 1 ≤ k ∧ k ≤ src.size - a ∧ i = .int .i64 k ∧ wr.ownsRow (w.heap.size + 1) 5 1 v tx.length (Lib.byteCells tx) ∧ tx.length + 1 ≤ k ∧ Below (w.heap.size + 1) ((w.alloc (.cells #[.int .i64 0, .string ⟨#[]⟩, .int .i64 0] 47)).drewN nq) wr ∧ Hid (Lx.QI (src.data.toList.drop a) k tx)) (fun _ i _ => (src.size - a) - (intOf i).toNat)
    case atStart => exact ⟨1, [], by omega, by omega, rfl, World.ownsRow_nil _ _ _ _, by simp, Below.refl _ _, Lib.hid (Lx.QI.start _)⟩
    case round =>
      obtain ⟨k, tx, hk1, hk, rfl, hown, htx, hB, hQ⟩ := hrel
      obtain ⟨x0, x1, x2, y0, y1, y2, hz⟩ := K3.out _ hB
      have hBz := hB.size
      rw [HZ.out] at hBz
      have HBW := Lib.hid (HW0.out.trans (hB.mono (by omega)))
      have HO := Lib.hid hown
      obtain ⟨p, cap, rfl⟩ := own_slice hown
      have HB := Lib.hid hB
      clear hown hB
      by_cases hlt : k < src.size - a
      · have hkr : k < (src.extract a src.size).size := by rw [rest_size]; omega
        have hkd : k < (src.data.toList.drop a).length := by rw [HRL.out]; exact hlt
        by_cases q34 : (src.extract a src.size)[k].toNat = 34
        · have hd := hQ.out.close hk1 (by rw [HRL.out]; exact hlt) (by rw [HG.out k hlt]; exact q34)
          have e1 := HF.out _ _ hd
          have b1 : (((src.extract a src.size)[k].toNat : Int) == 34) = true := ibeq_t (by omega)
          have hconv := conv_own HO.out
          by_cases h60 : tx.length ≤ 60
          · rw [if_pos h60] at e1
            have E1 := Lib.hid e1
            clear e1 hd q34
            have h60' : ¬ (60 : Int) < tx.length := by omega
            go_wp2
            exact bodyPost_ret (v := tokV (some (3, tx, k + 1))) (by simp [results, Tryd.results60, go_sem, tokV, x0, x1, x2]) rfl ⟨by rw [E1.out], (by repeat (first | exact HBW.out | refine Below.setCell ?_ (by simp) _))⟩
          · rw [if_neg h60] at e1
            have E1 := Lib.hid e1
            clear e1 hd q34
            have h60' : (60 : Int) < tx.length := by omega
            go_wp2
            exact bodyPost_ret (v := tokV none) (by simp [results, Tryd.results60, go_sem, tokV, x0, x1, x2]) rfl ⟨by rw [E1.out], (by repeat (first | exact HBW.out | refine Below.setCell ?_ (by simp) _))⟩
        · have b1 : (((src.extract a src.size)[k].toNat : Int) == 34) = false := ibeq_f (by omega)
          by_cases q92 : (src.extract a src.size)[k].toNat = 92
          · have b2 : (((src.extract a src.size)[k].toNat : Int) == 92) = true := ibeq_t (by omega)
            by_cases hend : k + 1 = src.size - a
            · have b3 : (((k : Int) + 1) == ((src.size - a : Nat) : Int)) = true := ibeq_t (by omega)
              have E1 := Lib.hid (HNone.out (hQ.out.cut (by rw [HRL.out]; exact hend) (by rw [HG.out k hlt]; exact q92)))
              clear q34 q92 hkd
              have hend' := Lib.hid hend
              clear hend
              go_wp2_with fail
              exact bodyPost_ret (v := tokV none) (by simp [results, Tryd.results60, go_sem, tokV, x0, x1, x2]) rfl ⟨by rw [E1.out], (by repeat (first | exact HBW.out | refine Below.setCell ?_ (by simp) _))⟩
            · have b3 : (((k : Int) + 1) == ((src.size - a : Nat) : Int)) = false := ibeq_f (by omega)
              have hlt2 : k + 1 < src.size - a := by omega
              have hkd2 : k + 1 < (src.data.toList.drop a).length := by rw [HRL.out]; exact hlt2
              have hkr2 : k + 1 < (src.extract a src.size).size := by rw [rest_size]; omega
              have N := fun w => needsEsc_any (src.extract a src.size)[k + 1] w
              cases hn : Lx.needsEsc (src.extract a src.size)[k + 1]
              · have E1 := Lib.hid (HNone.out (hQ.out.bad_esc hkd2 (by rw [HG.out k hlt]; exact q92) (by rw [HG.out (k + 1) hlt2]; exact hn)))
                rw [hn] at N
                have NN := Lib.hid N
                clear N hn q34 q92 hkd hkd2 hend
                go_wp2_with (go_at_call 53; refine (NN.out _).mono ?_; rintro e w' ⟨rfl, rfl⟩)
                exact bodyPost_ret (v := tokV none) (by simp [results, Tryd.results60, go_sem, tokV, x0, x1, x2]) rfl ⟨by rw [E1.out], (by repeat (first | exact HBW.out | refine Below.setCell ?_ (by simp) _))⟩
              · have hQ' := hQ.out.esc hk1 hkd2 (by rw [HG.out k hlt]; exact q92) (by rw [HG.out (k + 1) hlt2]; exact hn)
                rw [HG.out (k + 1) hlt2] at hQ'
                have HQ' := Lib.hid hQ'
                have P := fun w => isPrinted_any (src.extract a src.size)[k + 1] w
                rw [Lx.needsEsc_printed hn] at P
                rw [hn] at N
                have NN := Lib.hid N
                have PP := Lib.hid P
                clear P N hn q34 q92 hkd hkd2 hQ' hend
                go_wp2_with (first | (go_at_call 53; refine (NN.out _).mono ?_; rintro e w' ⟨rfl, rfl⟩) | (go_at_call 52; refine (PP.out _).mono ?_; rintro e w' ⟨rfl, rfl⟩) | (at_builtin; refine wpList_append_own _ rfl _ _ 62 rfl (w.heap.size + 1) 5 i0 (.int .u8 0) 1 1 Tryd.underlying62 HI.out HZ0.out HZ1.out HZ2.out rfl (by decide) _ _ _ rfl (HO.out.alloc _) ⟨wr.heap.size, 0, none⟩ 1 1 [.int .u8 ((src.extract a src.size)[k + 1].toNat : Int)] rfl rfl ?d1 ?d2 ?d3 ?d4 ?d5 ?_))
                case d1 => exact cell_one_new _ _ _
                case d2 => simp [Value.oneCell']
                case d3 => unfold maxLen; omega
                case d4 => omega
                case d5 => rw [World.size_alloc]; omega
                intro v' w1 hown' hgrow _
                have hbw := below_row HO.out (by omega) hgrow
                rw [snoc_cells] at hown'
                have HO' := Lib.hid hown'
                have HB' := Lib.hid (HB.out.trans hbw)
                clear hown' hgrow hbw
                go_wp2
                go_roundw
                case rel => exact ⟨k + 2, tx ++ [(src.extract a src.size)[k + 1]], by omega, by omega, by go_num, by simpa using HO'.out, by simp; omega, HB'.out, Lib.hid (HQ'.out)⟩
                case measure => simp [intOf]; omega
          · have b2 : (((src.extract a src.size)[k].toNat : Int) == 92) = false := ibeq_f (by omega)
            have P := fun w => isPrinted_any (src.extract a src.size)[k] w
            cases hp : Lx.isPrinted (src.extract a src.size)[k]
            · have E1 := Lib.hid (HNone.out (hQ.out.bad hkd (by rw [HG.out k hlt]; exact q34) (by rw [HG.out k hlt]; exact q92) (by rw [HG.out k hlt]; exact hp)))
              rw [hp] at P
              have PP := Lib.hid P
              clear P hp q34 q92
              go_wp2_with (go_at_call 52; refine (PP.out _).mono ?_; rintro e w' ⟨rfl, rfl⟩)
              exact bodyPost_ret (v := tokV none) (by simp [results, Tryd.results60, go_sem, tokV, x0, x1, x2]) rfl ⟨by rw [E1.out], (by repeat (first | exact HBW.out | refine Below.setCell ?_ (by simp) _))⟩
            · have hQ' := hQ.out.plain hk1 hkd (by rw [HG.out k hlt]; exact q34) (by rw [HG.out k hlt]; exact q92) (by rw [HG.out k hlt]; exact hp)
              rw [HG.out k hlt] at hQ'
              have HQ' := Lib.hid hQ'
              rw [hp] at P
              have PP := Lib.hid P
              clear P hp q34 q92 hQ' hkd
              go_wp2_with (first | (go_at_call 52; refine (PP.out _).mono ?_; rintro e w' ⟨rfl, rfl⟩) | (at_builtin; refine wpList_append_own _ rfl _ _ 62 rfl (w.heap.size + 1) 5 i0 (.int .u8 0) 1 1 Tryd.underlying62 HI.out HZ0.out HZ1.out HZ2.out rfl (by decide) _ _ _ rfl (HO.out.alloc _) ⟨wr.heap.size, 0, none⟩ 1 1 [.int .u8 ((src.extract a src.size)[k].toNat : Int)] rfl rfl ?c1 ?c2 ?c3 ?c4 ?c5 ?_))
              case c1 => exact cell_one_new _ _ _
              case c2 => simp [Value.oneCell']
              case c3 => unfold maxLen; omega
              case c4 => omega
              case c5 => rw [World.size_alloc]; omega
              intro v' w1 hown' hgrow _
              have hbw := below_row HO.out (by omega) hgrow
              rw [snoc_cells] at hown'
              have HO' := Lib.hid hown'
              have HB' := Lib.hid (HB.out.trans hbw)
              clear hown' hgrow hbw
              go_wp2
              go_roundw
              case rel => exact ⟨k + 1, tx ++ [(src.extract a src.size)[k]], by omega, by omega, by go_num, by simpa using HO'.out, by simp; omega, HB'.out, Lib.hid (HQ'.out)⟩
              case measure => simp [intOf]; omega
      · have E1 := Lib.hid (HNone.out (hQ.out.over (by rw [HRL.out]; omega)))
        go_wp2
        exact bodyPost_ret (v := tokV none) (by simp [results, Tryd.results60, go_sem, tokV, x0, x1, x2]) rfl ⟨by rw [E1.out], (by repeat (first | exact HBW.out | refine Below.setCell ?_ (by simp) _))⟩
  · have E1 := Lib.hid (Lx.quoteTok_other hl0 hq)
    have g1 : (((src.extract a src.size)[0].toNat : Int) == 34) = false := ibeq_f (by omega)
    have g2 : (((src.extract a src.size)[0].toNat : Int) != 34) = true := by rw [bne, g1]; rfl
    clear hq hl0
    go_enter Tryd.func60, Tryd.ntmps60
    go_wp2_with fail
    go_quiet (fail)
    go_wp2
    exact bodyPost_ret (v := tokV none) (by simp [results, Tryd.results60, go_sem, tokV]) rfl ⟨by rw [E1.out], (by repeat (first | exact new1 _ _ _ | refine Below.setCell ?_ (by simp) _))⟩

end Go.Proofs.YtbhknpombmdhiaaDoor
