/- What Join returns for a list of tokens of any positions, in memory. -/
import Derived.Test.YtbhknpombmdhiaaDoorBigText
import Derived.Test.YtbhknpombmdhiaaDoorBackPlain
import Derived.Test.YtbhknpombmdhiaaDoorRefSign
namespace Go.Proofs.YtbhknpombmdhiaaDoor
open Go.RowKit

namespace Lx
theorem val_pow : ∀ (l : List UInt8) (a : Nat), a * 10 ^ l.length ≤ val a l
  | [], a => by
    have e : val a [] = a := rfl
    rw [e, List.length_nil, Nat.pow_zero, Nat.mul_one]
    exact Nat.le_refl a
  | c :: l, a => by
    have ih := val_pow l (a * 10 + (c.toNat - 48))
    have e : val a (c :: l) = val (a * 10 + (c.toNat - 48)) l := rfl
    rw [e, List.length_cons, Nat.pow_succ]
    refine Nat.le_trans ?_ ih
    rw [Nat.mul_comm (10 ^ l.length) 10, ← Nat.mul_assoc]
    exact Nat.mul_le_mul_right _ (by omega)
theorem numeral_len {t : List UInt8} (h : isNumeral t = true) : t.length ≤ 13 := by
  cases t with
  | nil => simp
  | cons c l =>
    have h' := h
    simp only [isNumeral, Bool.and_eq_true, beq_iff_eq, decide_eq_true_eq] at h'
    obtain ⟨⟨hr, hz⟩, hv⟩ := h'
    have hd : isDigit c = true := by
      cases hd : isDigit c
      · simp [run, hd] at hr
      · rfl
    cases l with
    | nil => simp
    | cons d m =>
      have hc : 49 ≤ c.toNat := by
        have h1 : ¬ c.toNat = 48 := by simpa using hz
        have h2 : 48 ≤ c.toNat ∧ c.toNat ≤ 57 := by simpa [isDigit] using hd
        omega
      have hp := val_pow (d :: m) (0 * 10 + (c.toNat - 48))
      have e : val 0 (c :: d :: m) = val (0 * 10 + (c.toNat - 48)) (d :: m) := rfl
      rw [← e] at hp
      have h1 : 10 ^ (d :: m).length ≤ (0 * 10 + (c.toNat - 48)) * 10 ^ (d :: m).length := Nat.le_mul_of_pos_left _ (by omega)
      have h2 : 10 ^ (d :: m).length ≤ 10 ^ 12 := Nat.le_trans h1 (Nat.le_trans hp (by simpa using hv))
      have h3 : (d :: m).length ≤ 12 := (Nat.pow_le_pow_iff_right (by decide)).1 h2
      rw [List.length_cons]; omega
theorem signs_short : (signList.all fun x => decide (x.length ≤ 2)) = true := by decide
theorem words_short : (wordList.all fun x => decide (x.length ≤ 10)) = true := by decide
theorem good_len {k : Int} {t : List UInt8} (h : good (k, t)) : (txt k t).length ≤ 8000 := by
  obtain ⟨h, h6⟩ := h
  simp only [isTok] at h
  have hle := txt_le k t
  have : t.length ≤ 60 := by
    by_cases h1 : k = 1
    · rw [if_pos h1] at h
      cases t with
      | nil => simp
      | cons c l =>
        simp only [isName, Bool.and_eq_true, decide_eq_true_eq] at h
        have := h.1.1.1
        omega
    rw [if_neg h1] at h
    by_cases h2 : k = 2
    · rw [if_pos h2] at h
      have := numeral_len h
      omega
    rw [if_neg h2] at h
    by_cases h3 : k = 3
    · rw [if_pos h3] at h
      simp only [isText, Bool.and_eq_true, decide_eq_true_eq] at h
      exact h.2
    rw [if_neg h3] at h
    by_cases h4 : k = 4
    · rw [if_pos h4] at h
      have hm : t ∈ signList := by simpa [isSign] using h
      have := List.all_eq_true.1 signs_short t hm
      have : t.length ≤ 2 := by simpa using this
      omega
    rw [if_neg h4] at h
    by_cases h5 : k = 5
    · rw [if_pos h5, isWord_list] at h
      have hm : t ∈ wordList := by simpa using h
      have := List.all_eq_true.1 words_short t hm
      have : t.length ≤ 10 := by simpa using this
      omega
    rw [if_neg h5, decide_eq_false h6] at h
    cases h
  omega
end Lx

/-- A token with any position. -/
abbrev T3 := Int × ByteArray × Int
def cellsI3 (x : T3) : List Value := [.int .i64 x.1, .string x.2.1, .int .i64 x.2.2]
def cellsI (l : List T3) : List Value := l.flatMap cellsI3
def bareI (x : T3) : Int × List UInt8 := (x.1, x.2.1.data.toList)
def joinI (l : List T3) : Option (List UInt8) := Lx.joinGo [] true (l.map bareI)

theorem cellsI_get : ∀ (l : List T3) (j : Nat) (h : j < l.length), (cellsI l)[j * 3]? = some (.int .i64 (l[j]'h).1) ∧ (cellsI l)[j * 3 + 1]? = some (.string (l[j]'h).2.1) ∧ (cellsI l)[j * 3 + 2]? = some (.int .i64 (l[j]'h).2.2)
  | [], j, h => by simp at h
  | x :: l, 0, h => ⟨rfl, rfl, rfl⟩
  | x :: l, j + 1, h => by
    have i := cellsI_get l j (by simpa using h)
    have e : cellsI (x :: l) = cellsI3 x ++ cellsI l := rfl
    have hl : (cellsI3 x).length = 3 := rfl
    rw [e, List.getElem?_append_right (by rw [hl]; omega), List.getElem?_append_right (by rw [hl]; omega), List.getElem?_append_right (by rw [hl]; omega), hl]
    have e1 : (j + 1) * 3 - 3 = j * 3 := by omega
    have e2 : (j + 1) * 3 + 1 - 3 = j * 3 + 1 := by omega
    have e3 : (j + 1) * 3 + 2 - 3 = j * 3 + 2 := by omega
    rw [e1, e2, e3]
    exact i
theorem cellsI_len (l : List T3) : (cellsI l).length = l.length * 3 := by
  induction l with
  | nil => rfl
  | cons x l ih =>
    have e : cellsI (x :: l) = cellsI3 x ++ cellsI l := rfl
    have h3 : (cellsI3 x).length = 3 := rfl
    rw [e, List.length_append, ih, h3, List.length_cons]; omega
theorem row_cellsI {W : World} {b g n cap : Nat} {l : List T3} (h : W.ownsRow b 47 3 (.slice (some ⟨g, 0, none⟩) n cap) n (cellsI l)) (j : Nat) (hj : j < l.length) (hn : l.length = n) :
    W.cell? ⟨g, j * 3, none⟩ = some (.int .i64 (l[j]'hj).1) ∧ W.cell? ⟨g, j * 3 + 1, none⟩ = some (.string (l[j]'hj).2.1) ∧ W.cell? ⟨g, j * 3 + 2, none⟩ = some (.int .i64 (l[j]'hj).2.2) := by
  obtain ⟨a, b, c⟩ := cellsI_get l j hj
  refine ⟨(h.cellAt _ (by omega)).trans a, (h.cellAt _ (by omega)).trans b, (h.cellAt _ (by omega)).trans c⟩

set_option maxRecDepth 100000 in
set_option maxHeartbeats 8000000 in
theorem joinI_any (L : List T3) (N : Nat) (hN : N = L.length) (hN0 : 0 < N) (hN4 : N ≤ 4001) (v : Value) (bv : Nat) (w : World) (henv : Env w) (hv : w.ownsRow bv 47 3 v N (cellsI L)) (hx : ∀ x ∈ L, x.2.1.size ≤ 140737488355327) :
    Calls Tryd.prog 20 #[v] w fun e w' => e = .returned (joinV (joinI L)) ∧ Below w.heap.size w w' := by
  obtain ⟨g, cap, rfl, hgc, hgm⟩ := row_form hv hN0
  have HV := Lib.hid hv
  have HN := Lib.hid hN
  have HE := Lib.hid henv
  have HX := Lib.hid hx
  have HM : Hid ((L.map bareI).length = N) := Lib.hid (by rw [List.length_map, hN])
  have hbA : Below w.heap.size w (w.alloc (.cells #[.pointer none, .slice none 0 0] 64)) := (Below.refl _ _).alloc (Nat.le_refl _) _
  have hBA : Lib.IsBuilderF 64 5 w.heap.size w.heap.size (Lib.byteCells []) (w.alloc (.cells #[.pointer none, .slice none 0 0] 64)) := .inl ⟨Nat.le_refl _, _, World.alloc_heap_new w _, World.ownsRowF_of (World.ownsRow_nil _ _ _ _), by simp [Value.ownBlock]⟩
  have HbA := Lib.hid hbA
  have HBA := Lib.hid hBA
  clear hv hN henv hx hbA hBA
  go_enter Tryd.func20, Tryd.ntmps20
  go_wp2_with fail
  refine (signs_any _).mono ?_
  rintro e w1 ⟨rfl, hs, hb⟩
  rw [World.size_alloc] at hs
  have hz1 := hb.size
  rw [World.size_alloc] at hz1
  have HB1 := Lib.hid (HbA.out.trans (hb.mono HbA.out.size))
  have HBu := Lib.hid (builder_after HBA.out hb)
  have HS := Lib.hid hs
  clear hs hb
  go_wp2_with fail
  go_loopw [13] (fun i wr => ∃ (j : Nat) (acc : List UInt8), j ≤ N ∧ i = .int .i64 j ∧ acc.length ≤ 4000 ∧ Lib.IsBuilderF 64 5 w.heap.size w.heap.size (Lib.byteCells acc) wr ∧ Signs wr (w.heap.size + 1) 21 Lx.signList ∧ Below w.heap.size w wr ∧ Hid (joinI L = Lx.joinGo acc (decide (j = 0)) ((L.map bareI).drop j))) (fun i _ => N - (intOf i).toNat)
  case atStart => exact ⟨0, [], Nat.zero_le _, rfl, by simp, HBu.out, HS.out, HB1.out, Lib.hid rfl⟩
  case round =>
    obtain ⟨j, acc, hj, rfl, hacc, hBu, hSg, hB, hQ⟩ := hrel
    have hBz := hB.size
    have hSl := hSg.lt
    have HBR := Lib.hid hBu
    have HSR := Lib.hid hSg
    have HB := Lib.hid hB
    clear hBu hSg hB
    by_cases hlt : j < N
    · have hjL : j < L.length := by rw [← HN.out]; exact hlt
      obtain ⟨a0, a1, a2⟩ := row_cellsI (own_below HV.out HB.out) j hjL HN.out.symm
      have hxj := HX.out _ (List.getElem_mem hjL)
      have hMj : (L.map bareI)[j]? = some (bareI (L[j]'hjL)) := by rw [List.getElem?_map, List.getElem?_eq_getElem hjL]; rfl
      generalize L[j]'hjL = x at *
      obtain ⟨k, tb, q⟩ := x
      simp only at a0 a1 a2 hxj
      simp only [bareI] at hMj
      obtain ⟨t, htl⟩ : ∃ t, tb.data.toList = t := ⟨_, rfl⟩
      rw [htl] at hMj
      have hts := hxj
      have HMj := Lib.hid hMj
      have HTL := Lib.hid htl
      clear hMj hjL htl
      rcases join_cases (k := k) (tb := tb) (j := j) (N := N) with ⟨b6, e0, bj, hC⟩ | ⟨hC, hD⟩
      · have HR : Hid (joinI L = some acc) := Lib.hid (by
          obtain ⟨c1, c2, c3⟩ := hC.out
          rw [hQ.out, Lx.joinGo_end HMj.out c1 (by rw [← HTL.out]; exact c2) (by rw [HM.out]; exact c3)])
        have HBR2 : Hid (Lib.IsBuilderF 64 5 w.heap.size w.heap.size (Lib.byteCells acc) (wr.alloc (.cells #[.int .i64 k, .string tb, .int .i64 q] 47))) := Lib.hid (builder_after HBR.out ((Below.refl _ _).alloc (Nat.le_refl _) _))
        clear hQ hC hts hxj
        go_wp2_with fail
        refine (string_o w.heap.size w.heap.size acc _ HBR2.out (by simp; omega)).mono ?_
        rintro e w2 ⟨rfl, hb2⟩
        have HB2 := Lib.hid ((HB.out.alloc hBz (.cells #[.int .i64 k, .string tb, .int .i64 q] 47)).trans hb2)
        clear hb2
        go_wp2_with fail
        go_ret2
        exact ⟨by rw [HR.out]; rfl, HB2.out⟩
      · have HQ2 : Hid (joinI L = if (Lx.isTok k t && !decide (k = 6)) = true then
            if (acc ++ ((if decide (j = 0) = true then [] else [32]) ++ Lx.txt k t)).length ≤ 4000 then Lx.joinGo (acc ++ ((if decide (j = 0) = true then [] else [32]) ++ Lx.txt k t)) false ((L.map bareI).drop (j + 1)) else none
          else none) := Lib.hid (by rw [hQ.out, Lx.joinGo_step HMj.out (by rw [← HTL.out, HM.out]; exact hC.out)])
        have hbo : Below wr.heap.size wr (wr.alloc (.cells #[.int .i64 k, .string tb, .int .i64 q] 47)) := (Below.refl _ _).alloc (Nat.le_refl _) _
        have HT := Lib.hid (textOf_big k tb q (w.heap.size + 1) (wr.alloc (.cells #[.int .i64 k, .string tb, .int .i64 q] 47)) hts ((HE.out.below HE.out.2.2 HB.out).below (HE.out.below HE.out.2.2 HB.out).2.2 hbo) (HSR.out.below hbo hSl))
        have HBo := Lib.hid hbo
        clear hbo hQ hC hts hxj
        rcases hD with b6 | ⟨b6, e1, e2⟩ | ⟨b6, e0, bj⟩
        all_goals
          go_wp2_with fail
          refine HT.out.mono ?_
          rintro e w2 ⟨x, ok, rfl, hok, hxt, hb2⟩
          have hb3 := HBo.out.trans (hb2.mono HBo.out.size)
          have hz3 := hb3.size
          have HBR2 := Lib.hid (builder_after HBR.out hb3)
          have HSR2 := Lib.hid (HSR.out.below hb3 hSl)
          have HB2 := Lib.hid (HB.out.trans (hb3.mono hBz))
          rw [HTL.out] at hok hxt
          have HOK := Lib.hid hok
          have HXT := Lib.hid hxt
          clear hok hxt hb2 hb3
          cases ok
          · have HR : Hid (joinI L = none) := Lib.hid (by rw [HQ2.out, ← HOK.out]; rfl)
            go_wp2_with fail
            go_ret2
            exact ⟨by rw [HR.out]; rfl, HB2.out⟩
          · have HR : Hid (joinI L = if (acc ++ ((if decide (j = 0) = true then [] else [32]) ++ x.data.toList)).length ≤ 4000 then Lx.joinGo (acc ++ ((if decide (j = 0) = true then [] else [32]) ++ x.data.toList)) false ((L.map bareI).drop (j + 1)) else none) := Lib.hid (by
              rw [HQ2.out, if_pos HOK.out.symm, HXT.out rfl])
            have hxs : x.size ≤ 8002 := by
              have h0 := HOK.out.symm
              simp only [Bool.and_eq_true, Bool.not_eq_true', decide_eq_false_iff_not] at h0
              have h1 := Lx.good_len (k := k) (t := t) h0
              rw [← HXT.out rfl, list_len] at h1
              omega
            by_cases j0 : j = 0
            · have b0 : ¬ (0 : Int) < (j : Int) := by omega
              have HR2 : Hid (joinI L = if (acc ++ x.data.toList).length ≤ 4000 then Lx.joinGo (acc ++ x.data.toList) false ((L.map bareI).drop (j + 1)) else none) := Lib.hid (by
                have := HR.out; simp only [decide_eq_true j0, if_true, List.nil_append] at this; exact this)
              clear j0 HR HQ2 HT
              go_wp2_with fail
              refine (writeString_o w.heap.size w.heap.size (Lib.byteCells acc) x _ HBR2.out (by rw [byteCells_len]; omega) (by omega)).mono ?_
              rintro e w3 ⟨rfl, h3, hb3, hk3⟩
              rw [Lib.strCells_eq, bytes_cells] at h3
              have HBR3 : Hid (Lib.IsBuilderF 64 5 w.heap.size w.heap.size (Lib.byteCells (acc ++ x.data.toList)) w3) := Lib.hid (.inr h3)
              have HSR3 := Lib.hid (HSR2.out.others hk3 (by omega))
              have HB3 := Lib.hid (HB2.out.trans hb3)
              clear h3 hb3 hk3
              generalize acc ++ x.data.toList = acc2 at *
              have LN := Lib.hid (len_o w.heap.size w.heap.size (Lib.byteCells acc2) w3 HBR3.out)
              go_wp2_with fail
              refine LN.out.mono ?_
              rintro e w' ⟨rfl, hw⟩
              obtain rfl : w3 = w' := hw
              rw [byteCells_len]
              by_cases hbig : (4000 : Int) < acc2.length
              · have HR3 : Hid (joinI L = none) := Lib.hid (by rw [HR2.out, if_neg (by omega)])
                go_wp2_with fail
                go_ret2
                exact ⟨by rw [HR3.out]; rfl, HB3.out⟩
              · have HR3 : Hid (joinI L = Lx.joinGo acc2 (decide (j + 1 = 0)) ((L.map bareI).drop (j + 1))) := Lib.hid (by rw [HR2.out, if_pos (by omega)]; rfl)
                go_wp2_with fail
                go_roundw
                case rel => exact ⟨j + 1, acc2, by omega, by go_num, by omega, HBR3.out, HSR3.out, HB3.out, HR3⟩
                case measure => simp [intOf]; omega
            · have b0 : (0 : Int) < (j : Int) := by omega
              have HR2 : Hid (joinI L = if (acc ++ [32] ++ x.data.toList).length ≤ 4000 then Lx.joinGo (acc ++ [32] ++ x.data.toList) false ((L.map bareI).drop (j + 1)) else none) := Lib.hid (by
                have := HR.out; simp only [decide_eq_false j0, Bool.false_eq_true, if_false, ← List.append_assoc] at this; exact this)
              clear j0 HR HQ2 HT
              go_wp2_with fail
              refine (writeByte_o w.heap.size w.heap.size (Lib.byteCells acc) 32 _ HBR2.out (by rw [byteCells_len]; omega) (by omega)).mono ?_
              rintro e w4 ⟨rfl, h4, hb4, hk4⟩
              rw [show ([.int .u8 32] : List Value) = Lib.byteCells [32] from rfl, bytes_cells] at h4
              have HBR4 : Hid (Lib.IsBuilderF 64 5 w.heap.size w.heap.size (Lib.byteCells (acc ++ [32])) w4) := Lib.hid (.inr h4)
              have HSR4 := Lib.hid (HSR2.out.others hk4 (by omega))
              have HB4 := Lib.hid (HB2.out.trans hb4)
              have hz4 := HB4.out.size
              have hl4 : (acc ++ [32]).length ≤ 4001 := by simp; omega
              clear h4 hb4 hk4
              go_wp2_with fail
              refine (writeString_o w.heap.size w.heap.size (Lib.byteCells (acc ++ [32])) x _ HBR4.out (by rw [byteCells_len]; omega) (by omega)).mono ?_
              rintro e w3 ⟨rfl, h3, hb3, hk3⟩
              rw [Lib.strCells_eq, bytes_cells] at h3
              have HBR3 : Hid (Lib.IsBuilderF 64 5 w.heap.size w.heap.size (Lib.byteCells (acc ++ [32] ++ x.data.toList)) w3) := Lib.hid (.inr h3)
              have HSR3 := Lib.hid (HSR4.out.others hk3 (by omega))
              have HB3 := Lib.hid (HB4.out.trans hb3)
              clear h3 hb3 hk3 hl4
              generalize acc ++ [32] ++ x.data.toList = acc2 at *
              have LN := Lib.hid (len_o w.heap.size w.heap.size (Lib.byteCells acc2) w3 HBR3.out)
              go_wp2_with fail
              refine LN.out.mono ?_
              rintro e w' ⟨rfl, hw⟩
              obtain rfl : w3 = w' := hw
              rw [byteCells_len]
              by_cases hbig : (4000 : Int) < acc2.length
              · have HR3 : Hid (joinI L = none) := Lib.hid (by rw [HR2.out, if_neg (by omega)])
                go_wp2_with fail
                go_ret2
                exact ⟨by rw [HR3.out]; rfl, HB3.out⟩
              · have HR3 : Hid (joinI L = Lx.joinGo acc2 (decide (j + 1 = 0)) ((L.map bareI).drop (j + 1))) := Lib.hid (by rw [HR2.out, if_pos (by omega)]; rfl)
                go_wp2_with fail
                go_roundw
                case rel => exact ⟨j + 1, acc2, by omega, by go_num, by omega, HBR3.out, HSR3.out, HB3.out, HR3⟩
                case measure => simp [intOf]; omega
    · have HR : Hid (joinI L = some acc) := Lib.hid (by rw [hQ.out, Lx.joinGo_over (by rw [HM.out]; omega)])
      clear hQ
      go_wp2_with fail
      refine (string_o w.heap.size w.heap.size acc _ HBR.out hBz).mono ?_
      rintro e w2 ⟨rfl, hb2⟩
      have HB2 := Lib.hid (HB.out.trans hb2)
      clear hb2
      go_wp2_with fail
      go_ret2
      exact ⟨by rw [HR.out]; rfl, HB2.out⟩

end Go.Proofs.YtbhknpombmdhiaaDoor
