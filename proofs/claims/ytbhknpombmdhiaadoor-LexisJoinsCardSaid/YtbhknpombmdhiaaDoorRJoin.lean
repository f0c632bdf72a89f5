/- What Join of the document's own answers returns for a list of tokens in memory; a copy of such a list. -/
import Derived.Test.YtbhknpombmdhiaaDoorJoinI
import Derived.Test.YtbhknpombmdhiaaDoorListOwn
import Derived.Test.YtbhknpombmdhiaaDoorLawStands
namespace Go.Proofs.YtbhknpombmdhiaaDoor
open Go.RowKit

/-- What the reference's Join hands back. -/
def rjoinV : Option (List UInt8) → Value
  | none => .tuple #[.string ⟨#[]⟩, .bool false]
  | some s => .tuple #[.string ⟨s.toArray⟩, .bool true]

theorem rjoin_zero (p : Option Addr) (cap : Nat) (w : World) : Calls Tryd.prog 21 #[.slice p 0 cap] w fun e w' => e = .returned (rjoinV (some [])) ∧ w = w' := by
  go_enter Tryd.func21, Tryd.ntmps21
  go_wp2
  go_loop [4, 5] (fun sv i => sv = .string ⟨#[]⟩ ∧ i = .int .i64 0) (fun _ _ => 0)
  case atStart => exact ⟨rfl, rfl⟩
  case round =>
    obtain ⟨rfl, rfl⟩ := hrel
    go_wp2
    go_ret2
    exact ⟨rfl, rfl⟩

theorem rjoin_some {L : List T3} {s : ByteArray} (h : joinI L = some s.data.toList) : rjoinV (joinI L) = .tuple #[.string s, .bool true] := by
  rw [h]
  show Value.tuple #[.string ⟨s.data.toList.toArray⟩, .bool true] = _
  rw [Array.toArray_toList]

namespace Lx
theorem tok_end {k : Int} {t : List UInt8} (h : isTok k t = true) (h6 : k = 6) : t = [] := by
  subst h6
  have h' : (decide ((6 : Int) = 6) && t.isEmpty) = true := h
  simpa using h'
end Lx

set_option maxRecDepth 100000 in
set_option maxHeartbeats 8000000 in
theorem rJoin_any (L : List T3) (N : Nat) (hN : N = L.length) (hN0 : 0 < N) (hN4 : N ≤ 4001) (v : Value) (bv : Nat) (w : World) (hv : w.ownsRow bv 47 3 v N (cellsI L)) (hx : ∀ x ∈ L, x.2.1.size ≤ 140737488355327) :
    Calls Tryd.prog 21 #[v] w fun e w' => e = .returned (rjoinV (joinI L)) ∧ Below w.heap.size w w' := by
  obtain ⟨g, cap, rfl, hgc, hgm⟩ := row_form hv hN0
  unfold maxLen at hgm
  have HV := Lib.hid hv
  have HN := Lib.hid hN
  have HX := Lib.hid hx
  have HM : Hid ((L.map bareI).length = N) := Lib.hid (by rw [List.length_map, hN])
  clear hv hN hx
  go_enter Tryd.func21, Tryd.ntmps21
  go_wp2_with fail
  go_loopw [4, 5] (fun sv i wr => ∃ (j : Nat) (sb : ByteArray), j ≤ N ∧ i = .int .i64 j ∧ sv = .string sb ∧ sb.size ≤ 4000 ∧ Below w.heap.size w wr ∧ Hid (joinI L = Lx.joinGo sb.data.toList (decide (j = 0)) ((L.map bareI).drop j))) (fun _ i _ => N - (intOf i).toNat)
  case atStart => exact ⟨0, ⟨#[]⟩, Nat.zero_le _, rfl, rfl, by decide, Below.refl _ _, Lib.hid rfl⟩
  case round =>
    obtain ⟨j, sb, hj, rfl, rfl, hsb, hB, hQ⟩ := hrel
    have hBz := hB.size
    have HB := Lib.hid hB
    clear hB
    by_cases hlt : j < N
    · have hjL : j < L.length := by rw [← HN.out]; exact hlt
      obtain ⟨a0, a1, a2⟩ := row_cellsI (own_below HV.out HB.out) j hjL HN.out.symm
      have hxj := HX.out _ (List.getElem_mem hjL)
      have hMj : (L.map bareI)[j]? = some (bareI (L[j]'hjL)) := by rw [List.getElem?_map, List.getElem?_eq_getElem hjL]; rfl
      have HA : Hid (∀ W, Below w.heap.size w W → W.cell? ⟨g, j * 3, none⟩ = some (.int .i64 (L[j]'hjL).1) ∧ W.cell? ⟨g, j * 3 + 1, none⟩ = some (.string (L[j]'hjL).2.1) ∧ W.cell? ⟨g, j * 3 + 2, none⟩ = some (.int .i64 (L[j]'hjL).2.2)) := Lib.hid fun W hW => row_cellsI (own_below HV.out hW) j hjL HN.out.symm
      generalize L[j]'hjL = x at *
      obtain ⟨k, tb, q⟩ := x
      simp only at a0 a1 a2 hxj
      simp only [bareI] at hMj
      have HMj := Lib.hid hMj
      have IT := Lib.hid (fun w => rIsToken_any k tb q w (by omega))
      clear hMj
      cases htok : Lx.isTok k tb.data.toList
      · have HR : Hid (joinI L = none) := Lib.hid (by
          rw [hQ.out, Lx.joinGo_step HMj.out (by
            rintro ⟨h1, h2, _⟩
            rw [h1, h2] at htok
            exact absurd htok (by decide)), htok]
          rfl)
        have IT' : Hid (∀ w, Calls Tryd.prog 33 #[.agg #[.int .i64 k, .string tb, .int .i64 q]] w fun e w' => e = .returned (.bool false) ∧ Below w.heap.size w w') := Lib.hid fun w => by
          have := IT.out w; rw [htok] at this; exact this
        clear htok hQ IT
        go_wp2_with fail
        refine (IT'.out _).mono ?_
        rintro e w2 ⟨rfl, hb2⟩
        have HB2 := Lib.hid (HB.out.trans (hb2.mono hBz))
        clear hb2
        go_wp2_with fail
        go_ret2
        exact ⟨by rw [HR.out]; rfl, HB2.out⟩
      · have IT' : Hid (∀ w, Calls Tryd.prog 33 #[.agg #[.int .i64 k, .string tb, .int .i64 q]] w fun e w' => e = .returned (.bool true) ∧ Below w.heap.size w w') := Lib.hid fun w => by
          have := IT.out w; rw [htok] at this; exact this
        have HTok := Lib.hid htok
        clear htok IT
        by_cases h6 : k = 6
        · have b6 : (k == 6) = true := ibeq_t h6
          have HT0 := Lib.hid (Lx.tok_end HTok.out h6)
          by_cases hl : j + 1 < N
          · have hl2 : (j : Int) < (N : Int) - 1 := by omega
            have HR : Hid (joinI L = none) := Lib.hid (by
              rw [hQ.out, Lx.joinGo_step HMj.out (by rintro ⟨_, _, h3⟩; rw [HM.out] at h3; omega), if_neg]
              rw [decide_eq_true h6]; simp)
            clear hQ h6
            go_wp2_with fail
            refine (IT'.out _).mono ?_
            rintro e w2 ⟨rfl, hb2⟩
            have HB2 := Lib.hid (HB.out.trans (hb2.mono hBz))
            obtain ⟨d0, d1, d2⟩ := HA.out w2 HB2.out
            clear hb2
            go_wp2_with fail
            go_ret2
            exact ⟨by rw [HR.out]; rfl, HB2.out⟩
          · have hl2 : ¬ (j : Int) < (N : Int) - 1 := by omega
            have HR : Hid (joinI L = some sb.data.toList) := Lib.hid (by
              rw [hQ.out, Lx.joinGo_end HMj.out h6 HT0.out (by rw [HM.out]; omega)])
            clear hQ h6
            go_wp2_with fail
            refine (IT'.out _).mono ?_
            rintro e w2 ⟨rfl, hb2⟩
            have HB2 := Lib.hid (HB.out.trans (hb2.mono hBz))
            obtain ⟨d0, d1, d2⟩ := HA.out w2 HB2.out
            clear hb2
            go_wp2_with fail
            go_ret2
            exact ⟨by rw [rjoin_some HR.out]; rfl, HB2.out⟩
        · have b6 : (k == 6) = false := ibeq_f h6
          have hgood : Lx.good (k, tb.data.toList) := ⟨HTok.out, h6⟩
          have hgl := Lx.good_len hgood
          have HR : Hid (joinI L = if (sb.data.toList ++ ((if decide (j = 0) = true then [] else [32]) ++ Lx.txt k tb.data.toList)).length ≤ 4000 then Lx.joinGo (sb.data.toList ++ ((if decide (j = 0) = true then [] else [32]) ++ Lx.txt k tb.data.toList)) false ((L.map bareI).drop (j + 1)) else none) := Lib.hid (by
            rw [hQ.out, Lx.joinGo_step HMj.out (fun h => h6 h.1), if_pos]
            rw [HTok.out, decide_eq_false h6]; rfl)
          have hD : ((k == 3) = true ∧ Hid (∀ w, ∃ tx : ByteArray, tx.data.toList = Lx.txt k tb.data.toList ∧ tx.size ≤ 8000 ∧ Calls Tryd.prog 30 #[.string tb] w fun e w' => e = .returned (.string tx) ∧ Below w.heap.size w w')) ∨ ((k == 3) = false ∧ Hid (tb.data.toList = Lx.txt k tb.data.toList ∧ tb.size ≤ 8000)) := by
            by_cases h3 : k = 3
            · have ht60 : tb.size ≤ 8000 := by
                have h1 := Lx.esc_ge tb.data.toList
                have e : Lx.txt k tb.data.toList = [34] ++ Lx.esc tb.data.toList ++ [34] := by simp [Lx.txt, h3]
                rw [e, List.length_append, List.length_append] at hgl
                rw [list_len] at h1
                omega
              refine .inl ⟨ibeq_t h3, Lib.hid fun w => ⟨⟨([34] ++ Lx.esc tb.data.toList ++ [34]).toArray⟩, by simp [Lx.txt, h3], ?_, refQuote_any tb w (by omega)⟩⟩
              rw [bytes_len]
              have e : Lx.txt k tb.data.toList = [34] ++ Lx.esc tb.data.toList ++ [34] := by simp [Lx.txt, h3]
              rw [← e]; exact hgl
            · refine .inr ⟨ibeq_f h3, Lib.hid ⟨by simp [Lx.txt, h3], ?_⟩⟩
              have e : Lx.txt k tb.data.toList = tb.data.toList := by simp [Lx.txt, h3]
              rw [e, list_len] at hgl
              exact hgl
          clear hQ h6 hgood hgl
          rcases hD with ⟨b3, hQ3⟩ | ⟨b3, hE3⟩
          · go_wp2_with fail
            refine (IT'.out _).mono ?_
            rintro e w2 ⟨rfl, hb2⟩
            have HB2 := Lib.hid (HB.out.trans (hb2.mono hBz))
            obtain ⟨d0, d1, d2⟩ := HA.out w2 HB2.out
            obtain ⟨tx, htx, hts, hq⟩ := hQ3.out w2
            have HQ := Lib.hid hq
            have HTX := Lib.hid htx
            clear hb2 hq htx
            go_wp2_with fail
            refine HQ.out.mono ?_
            rintro e w3 ⟨rfl, hb3⟩
            have HB3 := Lib.hid (HB2.out.trans (hb3.mono HB2.out.size))
            clear hb3
            by_cases j0 : j = 0
            · have b0 : ¬ (0 : Int) < (j : Int) := by omega
              have HR2 : Hid (joinI L = if (sb ++ tx).size ≤ 4000 then Lx.joinGo (sb ++ tx).data.toList false ((L.map bareI).drop (j + 1)) else none) := Lib.hid (by
                have h := HR.out
                simp only [decide_eq_true j0, if_true, List.nil_append, ← HTX.out] at h
                rw [← list_len, ByteArray.data_append, Array.toList_append]; exact h)
              have hsz : (sb ++ tx).size = sb.size + tx.size := ByteArray.size_append
              have HSZ := Lib.hid hsz
              clear j0 HR hsz
              by_cases hbig : (4000 : Int) < (sb.size : Int) + tx.size
              · have HR3 : Hid (joinI L = none) := Lib.hid (by rw [HR2.out, if_neg (by rw [HSZ.out]; omega)])
                have hbig2 : (4000 : Int) < ((sb ++ tx).size : Nat) := by rw [HSZ.out]; omega
                go_wp2_with fail
                go_ret2
                exact ⟨by rw [HR3.out]; rfl, HB3.out⟩
              · have HR3 : Hid (joinI L = Lx.joinGo (sb ++ tx).data.toList (decide (j + 1 = 0)) ((L.map bareI).drop (j + 1))) := Lib.hid (by rw [HR2.out, if_pos (by rw [HSZ.out]; omega)]; rfl)
                have hbig2 : ¬ (4000 : Int) < ((sb ++ tx).size : Nat) := by rw [HSZ.out]; omega
                go_wp2_with fail
                go_roundw
                case rel => exact ⟨j + 1, sb ++ tx, by omega, by go_num, rfl, by rw [HSZ.out]; omega, HB3.out, HR3⟩
                case measure => simp [intOf]; omega
            · have b0 : (0 : Int) < (j : Int) := by omega
              have HR2 : Hid (joinI L = if (sb ++ ((⟨#[32]⟩ : ByteArray) ++ tx)).size ≤ 4000 then Lx.joinGo (sb ++ ((⟨#[32]⟩ : ByteArray) ++ tx)).data.toList false ((L.map bareI).drop (j + 1)) else none) := Lib.hid (by
                have h := HR.out
                simp only [decide_eq_false j0, Bool.false_eq_true, if_false, ← HTX.out] at h
                rw [← list_len, ByteArray.data_append, Array.toList_append, ByteArray.data_append, Array.toList_append]; exact h)
              have hsz : (sb ++ ((⟨#[32]⟩ : ByteArray) ++ tx)).size = sb.size + (1 + tx.size) := by rw [ByteArray.size_append, ByteArray.size_append]; rfl
              have HSZ := Lib.hid hsz
              clear j0 HR hsz
              by_cases hbig : (4000 : Int) < (sb.size : Int) + (1 + tx.size)
              · have HR3 : Hid (joinI L = none) := Lib.hid (by rw [HR2.out, if_neg (by rw [HSZ.out]; omega)])
                have hbig2 : (4000 : Int) < ((sb ++ ((⟨#[32]⟩ : ByteArray) ++ tx)).size : Nat) := by rw [HSZ.out]; omega
                go_wp2_with fail
                go_ret2
                exact ⟨by rw [HR3.out]; rfl, HB3.out⟩
              · have HR3 : Hid (joinI L = Lx.joinGo (sb ++ ((⟨#[32]⟩ : ByteArray) ++ tx)).data.toList (decide (j + 1 = 0)) ((L.map bareI).drop (j + 1))) := Lib.hid (by rw [HR2.out, if_pos (by rw [HSZ.out]; omega)]; rfl)
                have hbig2 : ¬ (4000 : Int) < ((sb ++ ((⟨#[32]⟩ : ByteArray) ++ tx)).size : Nat) := by rw [HSZ.out]; omega
                go_wp2_with fail
                go_roundw
                case rel => exact ⟨j + 1, sb ++ ((⟨#[32]⟩ : ByteArray) ++ tx), by omega, by go_num, rfl, by rw [HSZ.out]; omega, HB3.out, HR3⟩
                case measure => simp [intOf]; omega
          · go_wp2_with fail
            refine (IT'.out _).mono ?_
            rintro e w2 ⟨rfl, hb2⟩
            have HB2 := Lib.hid (HB.out.trans (hb2.mono hBz))
            obtain ⟨d0, d1, d2⟩ := HA.out w2 HB2.out
            have HTX := Lib.hid hE3.out.1
            have hts := hE3.out.2
            clear hb2 hE3
            by_cases j0 : j = 0
            · have b0 : ¬ (0 : Int) < (j : Int) := by omega
              have HR2 : Hid (joinI L = if (sb ++ tb).size ≤ 4000 then Lx.joinGo (sb ++ tb).data.toList false ((L.map bareI).drop (j + 1)) else none) := Lib.hid (by
                have h := HR.out
                simp only [decide_eq_true j0, if_true, List.nil_append, ← HTX.out] at h
                rw [← list_len, ByteArray.data_append, Array.toList_append]; exact h)
              have hsz : (sb ++ tb).size = sb.size + tb.size := ByteArray.size_append
              have HSZ := Lib.hid hsz
              clear j0 HR hsz
              by_cases hbig : (4000 : Int) < (sb.size : Int) + tb.size
              · have HR3 : Hid (joinI L = none) := Lib.hid (by rw [HR2.out, if_neg (by rw [HSZ.out]; omega)])
                have hbig2 : (4000 : Int) < ((sb ++ tb).size : Nat) := by rw [HSZ.out]; omega
                go_wp2_with fail
                go_ret2
                exact ⟨by rw [HR3.out]; rfl, HB2.out⟩
              · have HR3 : Hid (joinI L = Lx.joinGo (sb ++ tb).data.toList (decide (j + 1 = 0)) ((L.map bareI).drop (j + 1))) := Lib.hid (by rw [HR2.out, if_pos (by rw [HSZ.out]; omega)]; rfl)
                have hbig2 : ¬ (4000 : Int) < ((sb ++ tb).size : Nat) := by rw [HSZ.out]; omega
                go_wp2_with fail
                go_roundw
                case rel => exact ⟨j + 1, sb ++ tb, by omega, by go_num, rfl, by rw [HSZ.out]; omega, HB2.out, HR3⟩
                case measure => simp [intOf]; omega
            · have b0 : (0 : Int) < (j : Int) := by omega
              have HR2 : Hid (joinI L = if (sb ++ ((⟨#[32]⟩ : ByteArray) ++ tb)).size ≤ 4000 then Lx.joinGo (sb ++ ((⟨#[32]⟩ : ByteArray) ++ tb)).data.toList false ((L.map bareI).drop (j + 1)) else none) := Lib.hid (by
                have h := HR.out
                simp only [decide_eq_false j0, Bool.false_eq_true, if_false, ← HTX.out] at h
                rw [← list_len, ByteArray.data_append, Array.toList_append, ByteArray.data_append, Array.toList_append]; exact h)
              have hsz : (sb ++ ((⟨#[32]⟩ : ByteArray) ++ tb)).size = sb.size + (1 + tb.size) := by rw [ByteArray.size_append, ByteArray.size_append]; rfl
              have HSZ := Lib.hid hsz
              clear j0 HR hsz
              by_cases hbig : (4000 : Int) < (sb.size : Int) + (1 + tb.size)
              · have HR3 : Hid (joinI L = none) := Lib.hid (by rw [HR2.out, if_neg (by rw [HSZ.out]; omega)])
                have hbig2 : (4000 : Int) < ((sb ++ ((⟨#[32]⟩ : ByteArray) ++ tb)).size : Nat) := by rw [HSZ.out]; omega
                go_wp2_with fail
                go_ret2
                exact ⟨by rw [HR3.out]; rfl, HB2.out⟩
              · have HR3 : Hid (joinI L = Lx.joinGo (sb ++ ((⟨#[32]⟩ : ByteArray) ++ tb)).data.toList (decide (j + 1 = 0)) ((L.map bareI).drop (j + 1))) := Lib.hid (by rw [HR2.out, if_pos (by rw [HSZ.out]; omega)]; rfl)
                have hbig2 : ¬ (4000 : Int) < ((sb ++ ((⟨#[32]⟩ : ByteArray) ++ tb)).size : Nat) := by rw [HSZ.out]; omega
                go_wp2_with fail
                go_roundw
                case rel => exact ⟨j + 1, sb ++ ((⟨#[32]⟩ : ByteArray) ++ tb), by omega, by go_num, rfl, by rw [HSZ.out]; omega, HB2.out, HR3⟩
                case measure => simp [intOf]; omega
    · have HR : Hid (joinI L = some sb.data.toList) := Lib.hid (by rw [hQ.out, Lx.joinGo_over (by rw [HM.out]; omega)])
      clear hQ
      go_wp2_with fail
      go_ret2
      exact ⟨by rw [rjoin_some HR.out]; rfl, HB.out⟩

end Go.Proofs.YtbhknpombmdhiaaDoor
