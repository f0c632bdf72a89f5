/- The statement LexisJoins: it returns true for every list of tokens. -/
import Derived.Test.YtbhknpombmdhiaaDoorRJoin
namespace Go.Proofs.YtbhknpombmdhiaaDoor
open Go.RowKit

theorem cellsI_one (l : List T3) : ∀ u ∈ cellsI l, u.oneCell' = true := by
  intro u hu
  obtain ⟨x, _, hx⟩ := List.mem_flatMap.1 hu
  simp [cellsI3] at hx
  rcases hx with rfl | rfl | rfl <;> rfl

set_option maxRecDepth 100000 in
set_option maxHeartbeats 1000000 in
theorem listI_any (M : List T3) (N k : Nat) (hk : k = min N 2002) (hM : k = M.length) (a : Addr) (cap : Nat) (hc1 : N ≤ cap) (hc2 : cap ≤ maxLen) (w : World) (hc : ∀ j u, (cellsI M)[j]? = some u → w.cell? (a.add j) = some u) :
    Calls Tryd.prog 19 #[.slice (some a) N cap] w fun e w' => ∃ u, e = .returned u ∧ w'.ownsRow w.heap.size 47 3 u k (cellsI M) ∧ Below w.heap.size w w' := by
  unfold maxLen at hc2
  have hl1 : (cellsI M).length = k * 3 := by rw [cellsI_len, hM]
  have HR := Lib.hid hc
  have HL1 := Lib.hid hl1
  have H1 := Lib.hid (cellsI_one M)
  have hmi : min (N : Int) 2002 = (k : Int) := by omega
  have hkN : k ≤ N := by omega
  have hk2 : k ≤ 2002 := by omega
  obtain ⟨i0, hi, hz0, hz1, hz2⟩ := info_parts info47
  have HI := Lib.hid hi; have HZ0 := Lib.hid hz0; have HZ1 := Lib.hid hz1; have HZ2 := Lib.hid hz2
  clear hi hz0 hz1 hz2 hc hl1 hk hM
  go_enter Tryd.func19, Tryd.ntmps19
  go_wp2_with (at_builtin; refine wpList_append_own _ rfl _ _ 23 rfl w.heap.size 47 i0 (.agg #[.int .i64 0, .string ⟨#[]⟩, .int .i64 0]) 3 32 Tryd.underlying23 HI.out HZ0.out HZ1.out HZ2.out rfl (by decide) _ _ _ rfl (World.ownsRow_nil _ _ _ _) a k cap (cellsI M) rfl HL1.out HR.out H1.out ?n3 ?n4 ?n5 ?_)
  case n3 => unfold maxLen; omega
  case n4 => omega
  case n5 => exact Nat.le_refl _
  intro v' w3 hown' hgrow _
  have HO := Lib.hid hown'
  have HB : Hid (Below w.heap.size w w3) := Lib.hid ((Below.refl _ w).grown hgrow (Nat.le_refl _) (fun b e => by simp [Value.ownBlock] at e))
  clear hown' hgrow
  go_wp2
  go_ret
  exact ⟨v', rfl, by simpa using HO.out, HB.out⟩

set_option maxRecDepth 100000 in
set_option maxHeartbeats 4000000 in
theorem law_joins (v : Value) (M : List T3) (k : Nat) (hk : k = M.length) (hk4 : k ≤ 2002) (hx : ∀ x ∈ M, x.2.1.size ≤ 140737488355327) (w : World) (henv : Env w)
    (hL : Calls Tryd.prog 19 #[v] w fun e w' => ∃ u, e = .returned u ∧ w'.ownsRow w.heap.size 47 3 u k (cellsI M) ∧ Below w.heap.size w w') :
    Calls Tryd.prog 4 #[v] w fun e w' => e = .returned (.bool true) ∧ Below w.heap.size w w' := by
  have HL := Lib.hid hL
  have HE := Lib.hid henv
  have HX := Lib.hid hx
  have HK := Lib.hid hk
  clear hL henv hx hk
  go_enter Tryd.func4, Tryd.ntmps4
  go_wp2_with fail
  refine HL.out.mono ?_
  rintro e w1 ⟨u, rfl, hu, hb1⟩
  have HB1 := Lib.hid hb1
  have hE1 : Env w1 := HE.out.below HE.out.2.2 hb1
  obtain ⟨p, cap, rfl⟩ := own_form hu
  have JT : Calls Tryd.prog 20 #[.slice p k cap] w1 fun e w' => e = .returned (joinV (joinI M)) ∧ Below w1.heap.size w1 w' := by
    rcases Nat.eq_zero_or_pos k with h0 | h0
    · have hM : M = [] := List.eq_nil_of_length_eq_zero (by rw [← HK.out]; exact h0)
      rw [h0, hM]
      exact join_zero p cap w1
    · exact joinI_any M k HK.out h0 (by omega) _ _ w1 hE1 hu HX.out
  have RT : ∀ W, Below w1.heap.size w1 W → Calls Tryd.prog 21 #[.slice p k cap] W fun e w' => e = .returned (rjoinV (joinI M)) ∧ Below W.heap.size W w' := fun W hW => by
    rcases Nat.eq_zero_or_pos k with h0 | h0
    · have hM : M = [] := List.eq_nil_of_length_eq_zero (by rw [← HK.out]; exact h0)
      rw [h0, hM]
      exact (rjoin_zero p cap W).mono fun e w' ⟨he, hw⟩ => ⟨he, by rw [← hw]; exact Below.refl _ _⟩
    · exact rJoin_any M k HK.out h0 (by omega) _ _ W (own_below hu hW) HX.out
  cases hj : joinI M with
  | none =>
    rw [hj] at JT
    have HJ := Lib.hid JT
    have HR : Hid (∀ W, Below w1.heap.size w1 W → Calls Tryd.prog 21 #[.slice p k cap] W fun e w' => e = .returned (.tuple #[.string ⟨#[]⟩, .bool false]) ∧ Below W.heap.size W w') := Lib.hid fun W hW => by
      have := RT W hW; rw [hj] at this; exact this
    have HE1 := Lib.hid hE1
    clear JT RT hj hu hb1 hE1
    unfold joinV at HJ
    go_wp2_with fail
    refine HJ.out.mono ?_
    rintro e w2 ⟨rfl, hb2⟩
    have HB2 := Lib.hid (HB1.out.trans (hb2.mono HB1.out.size))
    have HR2 := Lib.hid (HR.out w2 hb2)
    clear hb2
    go_wp2_with fail
    refine HR2.out.mono ?_
    rintro e w3 ⟨rfl, hb3⟩
    have HB3 := Lib.hid (HB2.out.trans (hb3.mono HB2.out.size))
    clear hb3
    go_wp2_with fail
    refine (awake_any w3 (HE.out.below HE.out.2.2 HB3.out)).mono ?_
    rintro e w4 ⟨rfl, hb4⟩
    have HB4 := Lib.hid (HB3.out.trans (hb4.mono HB3.out.size))
    clear hb4
    go_wp2
    go_ret
    exact ⟨rfl, HB4.out⟩
  | some s =>
    rw [hj] at JT
    have HR : Hid (∀ W, Below w1.heap.size w1 W → Calls Tryd.prog 21 #[.slice p k cap] W fun e w' => e = .returned (.tuple #[.string ⟨s.toArray⟩, .bool true]) ∧ Below W.heap.size W w') := Lib.hid fun W hW => by
      have := RT W hW; rw [hj] at this; exact this
    have HJ : Hid (Calls Tryd.prog 20 #[.slice p k cap] w1 fun e w' => e = .returned (.tuple #[.string ⟨s.toArray⟩, .int .i64 0]) ∧ Below w1.heap.size w1 w') := Lib.hid JT
    generalize (⟨s.toArray⟩ : ByteArray) = sb at *
    clear JT RT hj hu hb1 hE1
    go_wp2_with fail
    refine HJ.out.mono ?_
    rintro e w2 ⟨rfl, hb2⟩
    have HB2 := Lib.hid (HB1.out.trans (hb2.mono HB1.out.size))
    have HR2 := Lib.hid (HR.out w2 hb2)
    clear hb2
    go_wp2_with fail
    refine HR2.out.mono ?_
    rintro e w3 ⟨rfl, hb3⟩
    have HB3 := Lib.hid (HB2.out.trans (hb3.mono HB2.out.size))
    clear hb3
    go_wp2_with fail
    refine (awake_any w3 (HE.out.below HE.out.2.2 HB3.out)).mono ?_
    rintro e w4 ⟨rfl, hb4⟩
    have HB4 := Lib.hid (HB3.out.trans (hb4.mono HB3.out.size))
    clear hb4
    go_wp2
    go_ret
    exact ⟨rfl, HB4.out⟩

end Go.Proofs.YtbhknpombmdhiaaDoor
