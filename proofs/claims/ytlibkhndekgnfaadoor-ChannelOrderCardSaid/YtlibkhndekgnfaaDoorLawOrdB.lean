/- ChannelOrder returns true. -/
import Derived.Test.YtlibkhndekgnfaaDoorOrdLib
namespace Go.Proofs.YtlibkhndekgnfaaDoor
open Go.RowKit

set_option maxRecDepth 100000 in
set_option maxHeartbeats 8000000 in
theorem law_order_B (k : Nat) (p : Int) (q : Option Addr) (n cp : Nat) (B : Nat → Bool) (w : World) (henv : Env w) (hk : k ≤ 16) (hp0 : 0 ≤ p) (hp2 : p ≤ 2) (hL : BoolsIn w q n B) (hnc : n ≤ cp) (hcp : cp ≤ 9223372036854775807) (h100 : n ≤ 100) :
    Calls Tryd.prog 7 #[.int .i64 k, .int .i64 p, .slice q n cp] w fun e w' => e = .returned (.bool true) ∧ Below w.heap.size w w' := by
  have NN := Lib.hid (new_ok k p w hk hp0 hp2)
  have HE := Lib.hid henv
  have HL := Lib.hid hL
  have hpos := henv.pos
  clear henv hL
  go_enter Tryd.func7, Tryd.ntmps7
  go_wp2_with fail
  refine NN.out.mono ?_
  rintro e w1 ⟨rfl, hR1, hB1⟩
  have hO1 : Own w w1 w.heap.size [] (newSt k p) := ⟨hR1, by simp, HE.out.below hB1, hpos, by simp [newSt], by simp [newSt]⟩
  have UU := Lib.hid (user_any w w1 w.heap.size p k q n cp B hO1 hB1 ⟨fun h => have ⟨ab, ao, a1, a2, a3⟩ := HL.out.at_ (by omega); ⟨ab, ao, a1, a2, fun i hi => a3 i (by omega)⟩⟩ (by omega) (by omega) hcp)
  clear hR1 hB1 NN hO1
  go_wp2_with fail
  refine UU.out.mono ?_
  rintro e w2 ⟨vS, vR, rfl, ns, c, S, R, hO, hF⟩
  obtain ⟨pS, cS, rfl, fS⟩ := hO.rs.form2
  obtain ⟨pR, cR, rfl, fR⟩ := hO.rr.form2
  have HO := Lib.hid hO
  have HF := Lib.hid hF
  have hSl := hF.sl
  have hRl := hF.lens
  have SS := Lib.hid (sorted_any w.heap.size _ R w2 hO.rr hF.sorted (by omega))
  have hzw := hO.bel.size
  clear hO hF UU
  go_wp2_with fail
  refine SS.out.mono ?_
  rintro e w3 ⟨rfl, hb3⟩
  have HO3 := Lib.hid (HO.out.below hb3)
  clear hb3 SS HO
  have hwl := HO3.out.own.wl
  have ST := Lib.hid (state_any w.heap.size ns c w3 HO3.out.own.rep (by omega))
  go_wp2_with fail
  refine ST.out.mono ?_
  rintro e w4 ⟨bv, wv, he, hbv, hwv, hb4⟩
  obtain ⟨pb, cb, rfl, -⟩ := hbv.form2
  obtain ⟨pw, cw, rfl, -⟩ := hwv.form2
  unfold stateV at he
  obtain rfl := he
  have HO4 := Lib.hid (HO3.out.below hb4)
  have HO5 := Lib.hid (HO3.out.below (hb4.alloc hb4.size (.cells #[.int .i64 c.cap, .int .i64 c.pol, .bool c.closed, .slice pb c.buf.length cb, .slice pw c.wait.length cw, .int .i64 c.dropped] 30)))
  clear hbv hwv hb4 ST HO3
  by_cases hd : 0 < c.dropped
  · have hd' : ((c.dropped : Int) > 0) := by omega
    have hp9 : (p != 0) = true := by simpa using HF.out.drp hd
    have hlen : (S.length : Int) ≥ (R.length : Int) + (c.dropped : Int) := by omega
    have hsum : IntKind.i64.wrap ((R.length : Int) + (c.dropped : Int)) = (R.length : Int) + (c.dropped : Int) := IntWalk.i64_in _ (by omega)
    go_wp2_with fail
    refine (awake_any _ HO5.out.own.env).mono ?_
    rintro e w6 ⟨rfl, hb6⟩
    have HB6 := Lib.hid (HO5.out.below hb6).bel
    clear hb6
    go_wp2
    go_ret
    exact ⟨rfl, HB6.out⟩
  · have hd0 : c.dropped = 0 := by omega
    have hRS : R.length ≤ S.length := by omega
    have HS := Lib.hid (HF.out.same hd0)
    have hd9 : ¬ ((c.dropped : Int) > 0) := by omega
    have HK : Hid (∀ o, Om w w.heap.size ns c S R (.slice pS S.length cS) (.slice pR R.length cR) (w4.alloc o)) := Lib.hid fun o => HO4.out.below (one _ _)
    have EE : Hid (∀ W, Om w w.heap.size ns c S R (.slice pS S.length cS) (.slice pR R.length cR) W → ∀ m, m = R.length → Calls Tryd.prog 27 #[.slice pS m cS, .slice pR R.length cR] W fun e w' => e = .returned (.bool true) ∧ Below W.heap.size W w') := Lib.hid fun W hW m hm => by
      subst hm
      have hcS : R.length ≤ cS ∧ cS ≤ maxLen := by
        rcases RowAt.form hW.rs with ⟨h1, h2⟩ | ⟨g, cap, h2, h3, h4, -, -⟩
        · simp at h2; obtain ⟨-, h5, rfl⟩ := h2; exact ⟨by rw [h5] at hRS; simpa using hRS, Nat.zero_le _⟩
        · simp at h2; obtain ⟨-, rfl⟩ := h2; exact ⟨Nat.le_trans hRS h3, h4⟩
      have hcR : R.length ≤ cR ∧ cR ≤ maxLen := by
        rcases RowAt.form hW.rr with ⟨h1, h2⟩ | ⟨g, cap, h2, h3, h4, -, -⟩
        · simp at h2; obtain ⟨-, h5, rfl⟩ := h2; exact ⟨by simp [h5], Nat.zero_le _⟩
        · simp at h2; obtain ⟨-, rfl⟩ := h2; exact ⟨h3, h4⟩
      refine equal_any ((pS.map fun a => a.block).getD 0) ((pR.map fun a => a.block).getD 0) _ _ R.length pS pR cS cR W (fun j => R[j]?.getD 0) rfl rfl (by omega) hcS.1 hcR.1 hcS.2 hcR.2 (fun h0 => ?_) (fun h0 => ?_)
      · obtain ⟨g, cap, hg, a1, a2, a3, a4⟩ := RowAt.pos hW.rs (by omega)
        cases hg
        refine ⟨rfl, a4, fun j hj => IsAt.cells hW.rs ?_⟩
        have h2 : (S.take R.length)[j]? = R[j]? := by rw [HS.out]
        rw [List.getElem?_take, if_pos hj] at h2
        rw [h2, List.getElem?_eq_getElem hj]; rfl
      · obtain ⟨g, cap, hg, a1, a2, a3, a4⟩ := RowAt.pos hW.rr h0
        cases hg
        refine ⟨rfl, a4, fun j hj => IsAt.cells hW.rr ?_⟩
        rw [List.getElem?_eq_getElem hj]; rfl
    clear hd hd0 HO5 HF HS
    go_wp2_with fail
    all_goals (refine (EE.out _ (HK.out _) _ (by omega)).mono ?_; rintro e w6 ⟨rfl, hb6⟩; have HO6 := Lib.hid ((HK.out _).below hb6); clear hb6)
    all_goals (go_wp2_with fail)
    all_goals (refine (awake_any _ HO6.out.own.env).mono ?_; rintro e w7 ⟨rfl, hb7⟩; have HB7 := Lib.hid (HO6.out.below hb7).bel; clear hb7)
    all_goals (go_wp2; go_ret; exact ⟨rfl, HB7.out⟩)
end Go.Proofs.YtlibkhndekgnfaaDoor
