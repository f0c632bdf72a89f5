/- The statement LexisParts: it returns true for every two strings. -/
import Derived.Test.YteileogkggmlhaaDoorLawComment
import Derived.Test.YteileogkggmlhaaDoorParts
namespace Go.Proofs.YteileogkggmlhaaDoor
open Go.RowKit

set_option maxRecDepth 100000 in
set_option maxHeartbeats 3000000 in
theorem law_parts (a b : ByteArray) (w : World) (wa : a.size ≤ maxLen) (wb : b.size ≤ maxLen) (henv : Env w) :
    Calls Tryd.prog 11 #[.string a, .string b] w fun e w' => e = .returned (.bool true) ∧ Below w.heap.size w w' := by
  unfold maxLen at wa wb
  obtain ⟨m, hm⟩ : ∃ m : Nat, m = min a.size 1900 := ⟨_, rfl⟩
  obtain ⟨n, hn⟩ : ∃ n : Nat, n = min b.size 1900 := ⟨_, rfl⟩
  have hmi : min (a.size : Int) 1900 = (m : Int) := by omega
  have hni : min (b.size : Int) 1900 = (n : Int) := by omega
  have hm4 : m ≤ 1900 := by omega
  have hms : m ≤ a.size := by omega
  have hn4 : n ≤ 1900 := by omega
  have hns : n ≤ b.size := by omega
  have HTS : Hid ((a.extract 0 m).size = m) := Lib.hid (by simp; omega)
  have HTN : Hid ((b.extract 0 n).size = n) := Lib.hid (by simp; omega)
  have HE := Lib.hid henv
  clear henv hm hn
  go_enter Tryd.func11, Tryd.ntmps11
  go_wp2_with fail
  go_quiet (fail)
  go_wp2_with fail
  generalize hw0 : w.drewN _ = w0
  have HB0 : Hid (Below w.heap.size w w0) := Lib.hid (by rw [← hw0]; exact below_drewN (Below.refl _ w) _)
  have HE0 : Hid (Env w0) := Lib.hid (HE.out.below HE.out.2.2 HB0.out)
  have HT := Lib.hid (tokens_any (a.extract 0 m) w0 HE0.out (by rw [HTS.out]; omega))
  clear hw0
  refine HT.out.mono ?_
  rintro e w1 ⟨h0, hp, hb1⟩
  have HB1 := Lib.hid hb1
  have HE1 : Hid (Env w1) := Lib.hid (HE0.out.below HE0.out.2.2 hb1)
  have HT2 := Lib.hid (tokens_any (b.extract 0 n) w1 HE1.out (by rw [HTN.out]; omega))
  have hsz3 : (a.extract 0 m ++ { data := #[10] } ++ b.extract 0 n : ByteArray).size = m + 1 + n := by
    rw [ByteArray.size_append, ByteArray.size_append, HTS.out, HTN.out]; rfl
  have HT3 : Hid (∀ W, Env W → Calls Tryd.prog 15 #[.string (a.extract 0 m ++ { data := #[10] } ++ b.extract 0 n)] W (TokPost (a.extract 0 m ++ { data := #[10] } ++ b.extract 0 n) W)) :=
    Lib.hid fun W hW => tokens_any _ W hW (by rw [hsz3]; omega)
  have HL3 : Hid ((a.extract 0 m ++ { data := #[10] } ++ b.extract 0 n : ByteArray).data.toList = (a.extract 0 m).data.toList ++ 10 :: (b.extract 0 n).data.toList) :=
    Lib.hid (by rw [ByteArray.data_append, ByteArray.data_append, Array.toList_append, Array.toList_append]; simp)
  clear hb1 hsz3
  cases hres : (Lx.tokens (a.extract 0 m).data.toList).2 with
  | some p =>
    obtain rfl := hp p hres
    have HR := Lib.hid hres
    clear h0 hp hres HT
    go_wp2_with fail
    refine HT2.out.mono ?_
    rintro e w2 ⟨h0, hp, hb2⟩
    have HB2 := Lib.hid hb2
    have HE2 : Hid (Env w2) := Lib.hid (HE1.out.below HE1.out.2.2 hb2)
    have hex : ∃ v q g, e = .returned (.tuple #[v, .int .i64 (q : Nat), .int .i64 g]) := by
      cases hr : (Lx.tokens (b.extract 0 n).data.toList).2 with
      | none => obtain ⟨v, rfl, -⟩ := h0 hr; exact ⟨v, 0, 0, rfl⟩
      | some q => exact ⟨_, q, 4, hp q hr⟩
    obtain ⟨v, q, g, rfl⟩ := hex
    clear h0 hp hb2 HT2
    go_wp2_with fail
    refine (HT3.out w2 HE2.out).mono ?_
    rintro e w3 ⟨h0, hp, hb3⟩
    have HE3 : Hid (Env w3) := Lib.hid (HE2.out.below HE2.out.2.2 hb3)
    have HB : Hid (Below w.heap.size w w3) := Lib.hid (HB0.out.trans ((HB1.out.trans ((HB2.out.trans (hb3.mono HB2.out.size)).mono HB1.out.size)).mono HB0.out.size))
    have HB3 := Lib.hid hb3
    obtain rfl := hp p (by rw [HL3.out]; exact Lx.tokens_bad _ HR.out)
    clear h0 hp hb3 HT3
    go_wp2_with fail
    refine (awake_any w3 HE3.out).mono ?_
    rintro e w4 ⟨rfl, hb4⟩
    have HB4 := Lib.hid hb4
    clear hb4
    go_wp2_with fail
    go_ret
    exact ⟨rfl, HB.out.trans (HB4.out.mono HB.out.size)⟩
  | none =>
    obtain ⟨v, rfl, hrow⟩ := h0 hres
    have HR := Lib.hid hres
    have HW := Lib.hid hrow
    clear h0 hp hres hrow HT
    go_wp2_with fail
    refine HT2.out.mono ?_
    rintro e w2 ⟨h0, hp, hb2⟩
    have HB2 := Lib.hid hb2
    have HE2 : Hid (Env w2) := Lib.hid (HE1.out.below HE1.out.2.2 hb2)
    obtain ⟨pre, hl, h3⟩ := Lx.tokens_parts (b.extract 0 n).data.toList (l := (Lx.tokens (a.extract 0 m).data.toList).1) (show Lx.tokens (a.extract 0 m).data.toList = _ from Prod.ext rfl HR.out)
    rw [← HL3.out, list_len, HTS.out] at h3
    rw [list_len, HTS.out] at hl
    have H3 := Lib.hid h3
    have hpn : pre.length ≤ 1900 := by
      have := Lx.scan_len (s := (a.extract 0 m).data.toList) ((a.extract 0 m).data.toList.length + 1) 0
      rw [show Lx.scan (a.extract 0 m).data.toList ((a.extract 0 m).data.toList.length + 1) 0 = Lx.tokens (a.extract 0 m).data.toList from rfl, hl, list_len, HTS.out] at this
      simp at this; omega
    have HPN := Lib.hid hpn
    clear hpn
    have hrow := HW.out
    rw [hl] at hrow
    have HRW := Lib.hid hrow
    clear hl h3 hrow HW HT2 hb2
    cases hres2 : (Lx.tokens (b.extract 0 n).data.toList).2 with
    | some q =>
      obtain rfl := hp q hres2
      have HR2 := Lib.hid hres2
      clear h0 hp hres2
      go_wp2_with fail
      refine (HT3.out w2 HE2.out).mono ?_
      rintro e w3 ⟨h0, hp, hb3⟩
      have HE3 : Hid (Env w3) := Lib.hid (HE2.out.below HE2.out.2.2 hb3)
      have HB : Hid (Below w.heap.size w w3) := Lib.hid (HB0.out.trans ((HB1.out.trans ((HB2.out.trans (hb3.mono HB2.out.size)).mono HB1.out.size)).mono HB0.out.size))
      have HB3 := Lib.hid hb3
      have hq : q ≤ 1900 := by
        have := Lx.scan_err _ _ HR2.out
        rw [list_len, HTN.out] at this; omega
      have he := hp (m + 1 + q) (by rw [H3.out, HR2.out]; rfl)
      have ec : ((m + 1 + q : Nat) : Int) = (m : Int) + 1 + q := by omega
      rw [ec] at he
      obtain rfl := he
      clear h0 hp hb3 HT3 ec
      go_wp2_with fail
      refine (awake_any w3 HE3.out).mono ?_
      rintro e w4 ⟨rfl, hb4⟩
      have HB4 := Lib.hid hb4
      clear hb4
      go_wp2_with fail
      go_ret
      exact ⟨rfl, HB.out.trans (HB4.out.mono HB.out.size)⟩
    | none =>
      obtain ⟨v2, rfl, hrow2⟩ := h0 hres2
      have HR2 := Lib.hid hres2
      have HW2 := Lib.hid hrow2
      clear h0 hp hres2 hrow2
      go_wp2_with fail
      refine (HT3.out w2 HE2.out).mono ?_
      rintro e w3 ⟨h0, hp, hb3⟩
      have HE3 : Hid (Env w3) := Lib.hid (HE2.out.below HE2.out.2.2 hb3)
      have HB : Hid (Below w.heap.size w w3) := Lib.hid (HB0.out.trans ((HB1.out.trans ((HB2.out.trans (hb3.mono HB2.out.size)).mono HB1.out.size)).mono HB0.out.size))
      have HB3 := Lib.hid hb3
      obtain ⟨v3, rfl, hrow3⟩ := h0 (by rw [H3.out, HR2.out]; rfl)
      have hrow1 := own_below (own_below HRW.out HB2.out) HB3.out
      have hrow2 := own_below HW2.out HB3.out
      obtain ⟨pre2, hl2, -⟩ := Lx.tokens_parts [] (l := (Lx.tokens (b.extract 0 n).data.toList).1) (show Lx.tokens (b.extract 0 n).data.toList = _ from Prod.ext rfl HR2.out)
      have hle := Lx.scan_le (s := (b.extract 0 n).data.toList) ((b.extract 0 n).data.toList.length + 1) 0
      rw [show Lx.scan (b.extract 0 n).data.toList ((b.extract 0 n).data.toList.length + 1) 0 = Lx.tokens (b.extract 0 n).data.toList from rfl, list_len, HTN.out] at hle
      have hln := Lx.scan_len (s := (b.extract 0 n).data.toList) ((b.extract 0 n).data.toList.length + 1) 0
      rw [show Lx.scan (b.extract 0 n).data.toList ((b.extract 0 n).data.toList.length + 1) 0 = Lx.tokens (b.extract 0 n).data.toList from rfl, list_len, HTN.out] at hln
      rw [H3.out] at hrow3
      generalize (Lx.tokens (b.extract 0 n).data.toList).1 = Lt at *
      have hM : Lt.length = pre2.length + 1 := by rw [hl2]; simp
      generalize pre2.length = M at *
      obtain ⟨N, hN⟩ : ∃ N, N = pre.length := ⟨_, rfl⟩
      have hN2 : N ≤ 1900 := by rw [hN]; exact HPN.out
      have hM2 : M ≤ 1900 := by omega
      clear hln
      have e1 : (pre ++ [((6 : Int), ([] : List UInt8), m)]).length = N + 1 := by simp [hN]
      have e3 : (pre ++ Lt.map (Lx.moved (m + 1))).length = N + M + 1 := by simp [hN, hM]; omega
      rw [e1] at hrow1
      rw [hM] at hrow2
      rw [e3] at hrow3
      obtain ⟨g1, cap1, rfl, hgc1, hgm1⟩ := row_form hrow1 (by omega)
      obtain ⟨g2, cap2, rfl, hgc2, hgm2⟩ := row_form hrow2 (by omega)
      obtain ⟨g3, cap3, rfl, hgc3, hgm3⟩ := row_form hrow3 (by omega)
      unfold maxLen at hgm1 hgm2 hgm3
      have HR1 := Lib.hid hrow1
      have HR2' := Lib.hid hrow2
      have HR3 := Lib.hid hrow3
      have HLE := Lib.hid hle
      have HM := Lib.hid hM
      have HN := Lib.hid hN
      have E1 := Lib.hid e1
      have E3 := Lib.hid e3
      clear h0 hp hb3 hrow1 hrow2 hrow3 hle hM hN e1 e3 hl2 HT3 H3 HW2 HRW HR2
      go_wp2_with fail
      go_loopw [16] (fun i W => ∃ j : Nat, j ≤ N + M + 1 ∧ i = .int .i64 j ∧ Below w3.heap.size w3 W) (fun i _ => N + M + 1 - (intOf i).toNat)
      case atStart => exact ⟨0, Nat.zero_le _, rfl, Below.refl _ _⟩
      case round =>
        obtain ⟨j, hj, rfl, hW⟩ := hrel
        have HWB := Lib.hid hW
        clear hW
        by_cases hlt : j < N + M + 1
        · have hl3 : j < (pre ++ Lt.map (Lx.moved (m + 1))).length := by rw [E3.out]; exact hlt
          have HA : ∀ o : Obj, (wr.alloc o).cell? ⟨g3, j * 3, none⟩ = some (.int .i64 ((pre ++ Lt.map (Lx.moved (m + 1)))[j]'hl3).1) ∧ (wr.alloc o).cell? ⟨g3, j * 3 + 1, none⟩ = some (.string ⟨((pre ++ Lt.map (Lx.moved (m + 1)))[j]'hl3).2.1.toArray⟩) ∧ (wr.alloc o).cell? ⟨g3, j * 3 + 2, none⟩ = some (.int .i64 (((pre ++ Lt.map (Lx.moved (m + 1)))[j]'hl3).2.2 : Nat)) :=
            fun o => row_cells ((own_below HR3.out HWB.out).alloc o) j hl3 E3.out
          by_cases hjn : j < N
          · have hl1 : j < (pre ++ [((6 : Int), ([] : List UInt8), m)]).length := by rw [E1.out]; omega
            obtain ⟨b0, b1, b2⟩ := row_cells ((own_below HR1.out HWB.out).alloc (.cells #[.int .i64 0, .string ⟨#[]⟩, .int .i64 0] 47)) j hl1 E1.out
            have hpj : j < pre.length := by rw [← HN.out]; exact hjn
            simp only [List.getElem_append_left hpj] at HA b0 b1 b2
            generalize pre[j] = x at *
            obtain ⟨x0, x1, x2⟩ := x
            simp only at HA b0 b1 b2
            obtain ⟨a0, a1, a2⟩ := HA (.cells #[.int .i64 x0, .string ⟨x1.toArray⟩, .int .i64 (x2 : Nat)] 47)
            clear hl1 hl3 hpj HA
            go_wp2_with fail
            go_quiet (fail)
            go_wp2_with fail
            go_roundw
            case rel => exact ⟨j + 1, by omega, by go_num, below_drewN (HWB.out.alloc HWB.out.size _) _⟩
            case measure => simp [intOf]; omega
          · obtain ⟨i, rfl⟩ : ∃ i, j = N + i := ⟨j - N, by omega⟩
            have hi : i < Lt.length := by rw [HM.out]; omega
            obtain ⟨b0, b1, b2⟩ := row_cells ((own_below HR2'.out HWB.out).alloc (.cells #[.int .i64 0, .string ⟨#[]⟩, .int .i64 0] 47)) i hi HM.out
            have hx := HLE.out _ (List.getElem_mem hi)
            have eg : (pre ++ Lt.map (Lx.moved (m + 1)))[N + i]'hl3 = Lx.moved (m + 1) Lt[i] := by
              rw [List.getElem_append_right (by rw [HN.out]; omega), List.getElem_map]
              congr 2; rw [HN.out]; omega
            rw [eg] at HA
            generalize Lt[i] = x at *
            obtain ⟨x0, x1, x2⟩ := x
            simp only [Lx.moved] at HA b0 b1 b2 hx
            have ec : ((m + 1 + x2 : Nat) : Int) = (x2 : Int) + m + 1 := by omega
            rw [ec] at HA
            obtain ⟨a0, a1, a2⟩ := HA (.cells #[.int .i64 x0, .string ⟨x1.toArray⟩, .int .i64 ((x2 : Int) + m + 1)] 47)
            have hix : ((N : Int) + i - (N + 1) + 1).toNat = i := by omega
            have hni : ((N : Int) + i).toNat = N + i := by omega
            clear hl3 hi eg ec HA
            go_wp2_with fail
            go_quiet (fail)
            go_wp2_with fail
            go_roundw
            case rel => exact ⟨N + i + 1, by omega, by go_num, below_drewN (HWB.out.alloc HWB.out.size _) _⟩
            case measure => simp [intOf]; omega
        · obtain rfl : j = N + M + 1 := by omega
          have HEr : Hid (Env wr) := Lib.hid (HE3.out.below HE3.out.2.2 HWB.out)
          go_wp2_with fail
          refine (awake_any wr HEr.out).mono ?_
          rintro e w4 ⟨rfl, hb4⟩
          have HB4 := Lib.hid hb4
          clear hb4
          go_wp2_with fail
          go_ret
          exact ⟨rfl, (HB.out.trans (HWB.out.mono HB.out.size)).trans (HB4.out.mono (Nat.le_trans HB.out.size HWB.out.size))⟩
end Go.Proofs.YteileogkggmlhaaDoor
