/- What Join returns for a list of tokens in memory. -/
import Derived.Test.YtbhknpombmdhiaaDoorJoinText
import Derived.Test.YtbhknpombmdhiaaDoorRefAll
import Derived.Test.YtbhknpombmdhiaaDoorLawComment
namespace Go.Proofs.YtbhknpombmdhiaaDoor
open Go.RowKit

namespace Lx
/-- What Join makes of tokens, behind what it has made of those before them. -/
def joinGo : List UInt8 → Bool → List (Int × List UInt8) → Option (List UInt8)
  | acc, _, [] => some acc
  | acc, first, (k, t) :: r =>
    if k = 6 ∧ t = [] ∧ r = [] then some acc
    else if (isTok k t && !decide (k = 6)) = true then
      if (acc ++ ((if first then [] else [32]) ++ txt k t)).length ≤ 4000 then joinGo (acc ++ ((if first then [] else [32]) ++ txt k t)) false r else none
    else none
def bare (x : Tok) : Int × List UInt8 := (x.1, x.2.1)
/-- What Join makes of tokens. -/
def join (l : List Tok) : Option (List UInt8) := joinGo [] true (l.map bare)
theorem txt_le (k : Int) (t : List UInt8) : (txt k t).length ≤ 2 * t.length + 2 := by
  unfold txt
  split
  · have := esc_len t
    simp; omega
  · omega
theorem joinGo_end {acc : List UInt8} {f : Bool} {M : List (Int × List UInt8)} {j : Nat} {k : Int} {t : List UInt8} (h : M[j]? = some (k, t)) (h1 : k = 6) (h2 : t = []) (h3 : j + 1 = M.length) : joinGo acc f (M.drop j) = some acc := by
  obtain ⟨hl, e⟩ := List.getElem?_eq_some_iff.1 h
  rw [List.drop_eq_getElem_cons hl, e]
  simp only [joinGo]
  rw [if_pos ⟨h1, h2, List.drop_eq_nil_of_le (by omega)⟩]
theorem joinGo_step {acc : List UInt8} {f : Bool} {M : List (Int × List UInt8)} {j : Nat} {k : Int} {t : List UInt8} (h : M[j]? = some (k, t)) (hn : ¬ (k = 6 ∧ t = [] ∧ j + 1 = M.length)) :
    joinGo acc f (M.drop j) = if (isTok k t && !decide (k = 6)) = true then
      if (acc ++ ((if f then [] else [32]) ++ txt k t)).length ≤ 4000 then joinGo (acc ++ ((if f then [] else [32]) ++ txt k t)) false (M.drop (j + 1)) else none
    else none := by
  obtain ⟨hl, e⟩ := List.getElem?_eq_some_iff.1 h
  rw [List.drop_eq_getElem_cons hl, e]
  simp only [joinGo]
  rw [if_neg]
  rintro ⟨h1, h2, h3⟩
  refine hn ⟨h1, h2, ?_⟩
  have := List.length_eq_zero_iff.2 h3
  rw [List.length_drop] at this
  omega
theorem joinGo_over {acc : List UInt8} {f : Bool} {M : List (Int × List UInt8)} {j : Nat} (h : M.length ≤ j) : joinGo acc f (M.drop j) = some acc := by
  rw [List.drop_of_length_le h]; rfl
end Lx

theorem byteCells_len (l : List UInt8) : (Lib.byteCells l).length = l.length := by simp [Lib.byteCells]

/-- What Join hands back. -/
def joinV : Option (List UInt8) → Value
  | none => .tuple #[.string ⟨#[]⟩, .int .i64 2]
  | some s => .tuple #[.string ⟨s.toArray⟩, .int .i64 0]

theorem join_cases {k : Int} {tb : ByteArray} {j N : Nat} :
    ((k == 6) = true ∧ tb.toList = [] ∧ ((j : Int) == (N : Int) - 1) = true ∧ Hid (k = 6 ∧ tb.data.toList = [] ∧ j + 1 = N)) ∨
    (Hid (¬ (k = 6 ∧ tb.data.toList = [] ∧ j + 1 = N)) ∧ ((k == 6) = false ∨ ((k == 6) = true ∧ tb.toList.isEmpty = false ∧ ¬ tb.toList = []) ∨ ((k == 6) = true ∧ tb.toList = [] ∧ ((j : Int) == (N : Int) - 1) = false))) := by
  by_cases h6 : k = 6
  · have b6 : (k == 6) = true := ibeq_t h6
    by_cases h0 : 0 < tb.size
    · refine .inr ⟨Lib.hid fun h => ?_, .inr (.inl ⟨b6, isEmpty_f h0, toList_ne h0⟩)⟩
      have := toList_ne h0
      rw [ByteArray.toList_eq] at this
      exact this h.2.1
    · have e0 : tb.toList = [] := by rw [ByteArray.toList_eq, list_nil h0]
      by_cases hl : j + 1 = N
      · exact .inl ⟨b6, e0, ibeq_t (by omega), Lib.hid ⟨h6, list_nil h0, hl⟩⟩
      · exact .inr ⟨Lib.hid fun h => hl h.2.2, .inr (.inr ⟨b6, e0, ibeq_f (by omega)⟩)⟩
  · exact .inr ⟨Lib.hid fun h => h6 h.1, .inl (ibeq_f h6)⟩

set_option maxRecDepth 100000 in
set_option maxHeartbeats 8000000 in
theorem join_any (L : List Lx.Tok) (N : Nat) (hN : N = L.length) (hN0 : 0 < N) (hN4 : N ≤ 4001) (v : Value) (bv : Nat) (w : World) (henv : Env w) (hv : w.ownsRow bv 47 3 v N (cellsT L)) (hx : ∀ x ∈ L, x.2.1.length ≤ 4000) :
    Calls Tryd.prog 20 #[v] w fun e w' => e = .returned (joinV (Lx.join L)) ∧ Below w.heap.size w w' := by
  obtain ⟨g, cap, rfl, hgc, hgm⟩ := row_form hv hN0
  have HV := Lib.hid hv
  have HN := Lib.hid hN
  have HE := Lib.hid henv
  have HX := Lib.hid hx
  have HM : Hid ((L.map Lx.bare).length = N) := Lib.hid (by rw [List.length_map, hN])
  have hbA : Below w.heap.size w (w.alloc (.cells #[.pointer none, .slice none 0 0] 64)) := (Below.refl _ _).alloc (Nat.le_refl _) _
  have hBA : Lib.IsBuilderF 64 5 w.heap.size w.heap.size (Lib.byteCells []) (w.alloc (.cells #[.pointer none, .slice none 0 0] 64)) := .inl ⟨Nat.le_refl _, _, World.alloc_heap_new w _, World.ownsRowF_of (World.ownsRow_nil _ _ _ _), by simp [Value.ownBlock]⟩
  have HbA := Lib.hid hbA
  have HBA := Lib.hid hBA
  clear hv hN henv hx hbA hBA
  go_enter Tryd.func20, Tryd.ntmps20
  go_wp2_with fail
  refine (signs_any _).mono ?_
  rintro e w1 ⟨rfl, hs, hb⟩
  rw [World.size_alloc] at hs
  have hz1 := hb.size
  rw [World.size_alloc] at hz1
  have HB1 := Lib.hid (HbA.out.trans (hb.mono HbA.out.size))
  have HBu := Lib.hid (builder_after HBA.out hb)
  have HS := Lib.hid hs
  clear hs hb
  go_wp2_with fail
  go_loopw [13] (fun i wr => ∃ (j : Nat) (acc : List UInt8), j ≤ N ∧ i = .int .i64 j ∧ acc.length ≤ 4000 ∧ Lib.IsBuilderF 64 5 w.heap.size w.heap.size (Lib.byteCells acc) wr ∧ Signs wr (w.heap.size + 1) 21 Lx.signList ∧ Below w.heap.size w wr ∧ Hid (Lx.join L = Lx.joinGo acc (decide (j = 0)) ((L.map Lx.bare).drop j))) (fun i _ => N - (intOf i).toNat)
  case atStart => exact ⟨0, [], Nat.zero_le _, rfl, by simp, HBu.out, HS.out, HB1.out, Lib.hid rfl⟩
  case round =>
    obtain ⟨j, acc, hj, rfl, hacc, hBu, hSg, hB, hQ⟩ := hrel
    have hBz := hB.size
    have hSl := hSg.lt
    have HBR := Lib.hid hBu
    have HSR := Lib.hid hSg
    have HB := Lib.hid hB
    clear hBu hSg hB
    by_cases hlt : j < N
    · have hjL : j < L.length := by rw [← HN.out]; exact hlt
      obtain ⟨a0, a1, a2⟩ := row_cells (own_below HV.out HB.out) j hjL HN.out.symm
      have hxj := HX.out _ (List.getElem_mem hjL)
      have hMj : (L.map Lx.bare)[j]? = some (Lx.bare (L[j]'hjL)) := by rw [List.getElem?_map, List.getElem?_eq_getElem hjL]; rfl
      generalize L[j]'hjL = x at *
      obtain ⟨k, t, q⟩ := x
      simp only at a0 a1 a2 hxj
      simp only [Lx.bare] at hMj
      have hts : (⟨t.toArray⟩ : ByteArray).size = t.length := by simp [ByteArray.size]
      have htl : (⟨t.toArray⟩ : ByteArray).data.toList = t := rfl
      generalize (⟨t.toArray⟩ : ByteArray) = tb at *
      have HMj := Lib.hid hMj
      have HTL := Lib.hid htl
      clear hMj hjL htl
      rcases join_cases (k := k) (tb := tb) (j := j) (N := N) with ⟨b6, e0, bj, hC⟩ | ⟨hC, hD⟩
      · have HR : Hid (Lx.join L = some acc) := Lib.hid (by
          obtain ⟨c1, c2, c3⟩ := hC.out
          rw [hQ.out, Lx.joinGo_end HMj.out c1 (by rw [← HTL.out]; exact c2) (by rw [HM.out]; exact c3)])
        have HBR2 : Hid (Lib.IsBuilderF 64 5 w.heap.size w.heap.size (Lib.byteCells acc) (wr.alloc (.cells #[.int .i64 k, .string tb, .int .i64 q] 47))) := Lib.hid (builder_after HBR.out ((Below.refl _ _).alloc (Nat.le_refl _) _))
        clear hQ hC hts
        go_wp2_with fail
        refine (string_o w.heap.size w.heap.size acc _ HBR2.out (by simp; omega)).mono ?_
        rintro e w2 ⟨rfl, hb2⟩
        have HB2 := Lib.hid ((HB.out.alloc hBz (.cells #[.int .i64 k, .string tb, .int .i64 q] 47)).trans hb2)
        clear hb2
        go_wp2_with fail
        go_ret2
        exact ⟨by rw [HR.out]; rfl, HB2.out⟩
      · have HQ2 : Hid (Lx.join L = if (Lx.isTok k t && !decide (k = 6)) = true then
            if (acc ++ ((if decide (j = 0) = true then [] else [32]) ++ Lx.txt k t)).length ≤ 4000 then Lx.joinGo (acc ++ ((if decide (j = 0) = true then [] else [32]) ++ Lx.txt k t)) false ((L.map Lx.bare).drop (j + 1)) else none
          else none) := Lib.hid (by rw [hQ.out, Lx.joinGo_step HMj.out (by rw [← HTL.out, HM.out]; exact hC.out)])
        have hbo : Below wr.heap.size wr (wr.alloc (.cells #[.int .i64 k, .string tb, .int .i64 q] 47)) := (Below.refl _ _).alloc (Nat.le_refl _) _
        have HT := Lib.hid (textOf_any k tb q (w.heap.size + 1) (wr.alloc (.cells #[.int .i64 k, .string tb, .int .i64 q] 47)) (by rw [hts]; omega) ((HE.out.below HE.out.2.2 HB.out).below (HE.out.below HE.out.2.2 HB.out).2.2 hbo) (HSR.out.below hbo hSl))
        have HBo := Lib.hid hbo
        clear hbo hQ hC hts
        rcases hD with b6 | ⟨b6, e1, e2⟩ | ⟨b6, e0, bj⟩
        all_goals
          go_wp2_with fail
          refine HT.out.mono ?_
          rintro e w2 ⟨x, ok, rfl, hok, hxt, hb2⟩
          have hb3 := HBo.out.trans (hb2.mono HBo.out.size)
          have hz3 := hb3.size
          have HBR2 := Lib.hid (builder_after HBR.out hb3)
          have HSR2 := Lib.hid (HSR.out.below hb3 hSl)
          have HB2 := Lib.hid (HB.out.trans (hb3.mono hBz))
          rw [HTL.out] at hok hxt
          have HOK := Lib.hid hok
          have HXT := Lib.hid hxt
          clear hok hxt hb2 hb3
          cases ok
          · have HR : Hid (Lx.join L = none) := Lib.hid (by rw [HQ2.out, ← HOK.out]; rfl)
            go_wp2_with fail
            go_ret2
            exact ⟨by rw [HR.out]; rfl, HB2.out⟩
          · have HR : Hid (Lx.join L = if (acc ++ ((if decide (j = 0) = true then [] else [32]) ++ x.data.toList)).length ≤ 4000 then Lx.joinGo (acc ++ ((if decide (j = 0) = true then [] else [32]) ++ x.data.toList)) false ((L.map Lx.bare).drop (j + 1)) else none) := Lib.hid (by
              rw [HQ2.out, if_pos HOK.out.symm, HXT.out rfl])
            have hxs : x.size ≤ 8002 := by
              have h1 := Lx.txt_le k t
              rw [← HXT.out rfl, list_len] at h1
              omega
            by_cases j0 : j = 0
            · have b0 : ¬ (0 : Int) < (j : Int) := by omega
              have HR2 : Hid (Lx.join L = if (acc ++ x.data.toList).length ≤ 4000 then Lx.joinGo (acc ++ x.data.toList) false ((L.map Lx.bare).drop (j + 1)) else none) := Lib.hid (by
                have := HR.out; simp only [decide_eq_true j0, if_true, List.nil_append] at this; exact this)
              clear j0 HR HQ2 HT
              go_wp2_with fail
              refine (writeString_o w.heap.size w.heap.size (Lib.byteCells acc) x _ HBR2.out (by rw [byteCells_len]; omega) (by omega)).mono ?_
              rintro e w3 ⟨rfl, h3, hb3, hk3⟩
              rw [Lib.strCells_eq, bytes_cells] at h3
              have HBR3 : Hid (Lib.IsBuilderF 64 5 w.heap.size w.heap.size (Lib.byteCells (acc ++ x.data.toList)) w3) := Lib.hid (.inr h3)
              have HSR3 := Lib.hid (HSR2.out.others hk3 (by omega))
              have HB3 := Lib.hid (HB2.out.trans hb3)
              clear h3 hb3 hk3
              generalize acc ++ x.data.toList = acc2 at *
              have LN := Lib.hid (len_o w.heap.size w.heap.size (Lib.byteCells acc2) w3 HBR3.out)
              go_wp2_with fail
              refine LN.out.mono ?_
              rintro e w' ⟨rfl, hw⟩
              obtain rfl : w3 = w' := hw
              rw [byteCells_len]
              by_cases hbig : (4000 : Int) < acc2.length
              · have HR3 : Hid (Lx.join L = none) := Lib.hid (by rw [HR2.out, if_neg (by omega)])
                go_wp2_with fail
                go_ret2
                exact ⟨by rw [HR3.out]; rfl, HB3.out⟩
              · have HR3 : Hid (Lx.join L = Lx.joinGo acc2 (decide (j + 1 = 0)) ((L.map Lx.bare).drop (j + 1))) := Lib.hid (by rw [HR2.out, if_pos (by omega)]; rfl)
                go_wp2_with fail
                go_roundw
                case rel => exact ⟨j + 1, acc2, by omega, by go_num, by omega, HBR3.out, HSR3.out, HB3.out, HR3⟩
                case measure => simp [intOf]; omega
            · have b0 : (0 : Int) < (j : Int) := by omega
              have HR2 : Hid (Lx.join L = if (acc ++ [32] ++ x.data.toList).length ≤ 4000 then Lx.joinGo (acc ++ [32] ++ x.data.toList) false ((L.map Lx.bare).drop (j + 1)) else none) := Lib.hid (by
                have := HR.out; simp only [decide_eq_false j0, Bool.false_eq_true, if_false, ← List.append_assoc] at this; exact this)
              clear j0 HR HQ2 HT
              go_wp2_with fail
              refine (writeByte_o w.heap.size w.heap.size (Lib.byteCells acc) 32 _ HBR2.out (by rw [byteCells_len]; omega) (by omega)).mono ?_
              rintro e w4 ⟨rfl, h4, hb4, hk4⟩
              rw [show ([.int .u8 32] : List Value) = Lib.byteCells [32] from rfl, bytes_cells] at h4
              have HBR4 : Hid (Lib.IsBuilderF 64 5 w.heap.size w.heap.size (Lib.byteCells (acc ++ [32])) w4) := Lib.hid (.inr h4)
              have HSR4 := Lib.hid (HSR2.out.others hk4 (by omega))
              have HB4 := Lib.hid (HB2.out.trans hb4)
              have hz4 := HB4.out.size
              have hl4 : (acc ++ [32]).length ≤ 4001 := by simp; omega
              clear h4 hb4 hk4
              go_wp2_with fail
              refine (writeString_o w.heap.size w.heap.size (Lib.byteCells (acc ++ [32])) x _ HBR4.out (by rw [byteCells_len]; omega) (by omega)).mono ?_
              rintro e w3 ⟨rfl, h3, hb3, hk3⟩
              rw [Lib.strCells_eq, bytes_cells] at h3
              have HBR3 : Hid (Lib.IsBuilderF 64 5 w.heap.size w.heap.size (Lib.byteCells (acc ++ [32] ++ x.data.toList)) w3) := Lib.hid (.inr h3)
              have HSR3 := Lib.hid (HSR4.out.others hk3 (by omega))
              have HB3 := Lib.hid (HB4.out.trans hb3)
              clear h3 hb3 hk3 hl4
              generalize acc ++ [32] ++ x.data.toList = acc2 at *
              have LN := Lib.hid (len_o w.heap.size w.heap.size (Lib.byteCells acc2) w3 HBR3.out)
              go_wp2_with fail
              refine LN.out.mono ?_
              rintro e w' ⟨rfl, hw⟩
              obtain rfl : w3 = w' := hw
              rw [byteCells_len]
              by_cases hbig : (4000 : Int) < acc2.length
              · have HR3 : Hid (Lx.join L = none) := Lib.hid (by rw [HR2.out, if_neg (by omega)])
                go_wp2_with fail
                go_ret2
                exact ⟨by rw [HR3.out]; rfl, HB3.out⟩
              · have HR3 : Hid (Lx.join L = Lx.joinGo acc2 (decide (j + 1 = 0)) ((L.map Lx.bare).drop (j + 1))) := Lib.hid (by rw [HR2.out, if_pos (by omega)]; rfl)
                go_wp2_with fail
                go_roundw
                case rel => exact ⟨j + 1, acc2, by omega, by go_num, by omega, HBR3.out, HSR3.out, HB3.out, HR3⟩
                case measure => simp [intOf]; omega
    · have HR : Hid (Lx.join L = some acc) := Lib.hid (by rw [hQ.out, Lx.joinGo_over (by rw [HM.out]; omega)])
      clear hQ
      go_wp2_with fail
      refine (string_o w.heap.size w.heap.size acc _ HBR.out hBz).mono ?_
      rintro e w2 ⟨rfl, hb2⟩
      have HB2 := Lib.hid (HB.out.trans hb2)
      clear hb2
      go_wp2_with fail
      go_ret2
      exact ⟨by rw [HR.out]; rfl, HB2.out⟩

end Go.Proofs.YtbhknpombmdhiaaDoor
