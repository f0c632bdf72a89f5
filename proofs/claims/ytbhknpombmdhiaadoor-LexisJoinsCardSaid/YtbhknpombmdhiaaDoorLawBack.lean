/- The statement LexisBack: it returns true for every string. -/
import Derived.Test.YtbhknpombmdhiaaDoorBackPlain
import Derived.Test.YtbhknpombmdhiaaDoorLawTokens
namespace Go.Proofs.YtbhknpombmdhiaaDoor
open Go.RowKit

namespace Lx
theorem esc_long (l : List UInt8) : l.length ≤ (esc l).length := by
  induction l with
  | nil => simp
  | cons c l ih =>
    have e : esc (c :: l) = (if needsEsc c then [92, c] else [c]) ++ esc l := by simp [esc]
    rw [e, List.length_append, List.length_cons]
    split <;> simp <;> omega
end Lx

/-- A list's beginning, as a slice of its memory. -/
theorem own_front {W : World} {b n k cap g : Nat} {l1 l2 : List Lx.Tok} (h : W.ownsRow b 47 3 (.slice (some ⟨g, 0, none⟩) n cap) n (cellsT (l1 ++ l2))) (hk : k = l1.length) : W.ownsRow b 47 3 (.slice (some ⟨g, 0, none⟩) k cap) k (cellsT l1) := by
  have hlen : ∀ l : List Lx.Tok, (cellsT l).length = l.length * 3 := fun l => by
    induction l with
    | nil => rfl
    | cons x l ih =>
      have e : cellsT (x :: l) = cells3 x ++ cellsT l := rfl
      have h3 : (cells3 x).length = 3 := rfl
      rw [e, List.length_append, ih, h3, List.length_cons]; omega
  obtain ⟨h1, h2⟩ := h
  have hap : cellsT (l1 ++ l2) = cellsT l1 ++ cellsT l2 := by simp [cellsT]
  rw [hlen, List.length_append] at h1
  refine ⟨by rw [hlen, hk], .inr ?_⟩
  rcases h2 with ⟨e, _⟩ | ⟨g', cap', cur, e, hb, hg, hn, hm, hc, ht⟩
  · cases e
  · simp only [Value.slice.injEq, Option.some.injEq, Addr.mk.injEq] at e
    obtain ⟨⟨rfl, -, -⟩, -, rfl⟩ := e
    refine ⟨g, cap, cur, rfl, hb, hg, by omega, hm, hc, ?_⟩
    have : cur.toList.take (k * 3) = (cur.toList.take (n * 3)).take (k * 3) := by rw [List.take_take]; congr 1; omega
    rw [this, ht, hap, List.take_left' (by rw [hlen, hk])]

set_option maxRecDepth 100000 in
set_option maxHeartbeats 2000000 in
theorem join_zero (p : Option Addr) (cap : Nat) (w : World) : Calls Tryd.prog 20 #[.slice p 0 cap] w fun e w' => e = .returned (joinV (some [])) ∧ Below w.heap.size w w' := by
  have hbA : Below w.heap.size w (w.alloc (.cells #[.pointer none, .slice none 0 0] 64)) := (Below.refl _ _).alloc (Nat.le_refl _) _
  have hBA : Lib.IsBuilderF 64 5 w.heap.size w.heap.size (Lib.byteCells []) (w.alloc (.cells #[.pointer none, .slice none 0 0] 64)) := .inl ⟨Nat.le_refl _, _, World.alloc_heap_new w _, World.ownsRowF_of (World.ownsRow_nil _ _ _ _), by simp [Value.ownBlock]⟩
  have HbA := Lib.hid hbA
  have HBA := Lib.hid hBA
  clear hbA hBA
  go_enter Tryd.func20, Tryd.ntmps20
  go_wp2_with fail
  refine (signs_any _).mono ?_
  rintro e w1 ⟨rfl, hs, hb⟩
  have HB1 := Lib.hid (HbA.out.trans (hb.mono HbA.out.size))
  have HBu := Lib.hid (builder_after HBA.out hb)
  have hz := HB1.out.size
  clear hs hb
  go_wp2_with fail
  go_loop [13] (fun i => i = .int .i64 0) (fun _ => 0)
  case atStart => rfl
  case round =>
    obtain rfl := hrel
    go_wp2_with fail
    refine (string_o w.heap.size w.heap.size [] _ HBu.out hz).mono ?_
    rintro e w2 ⟨rfl, hb2⟩
    have HB2 := Lib.hid (HB1.out.trans hb2)
    clear hb2
    go_wp2_with fail
    go_ret2
    exact ⟨rfl, HB2.out⟩

theorem tokens_small {s : List UInt8} {l : List Lx.Tok} (h : Lx.tokens s = (l, none)) (hs : s.length ≤ 4000) :
    ∃ pre, l = pre ++ [(6, [], s.length)] ∧ (∀ x ∈ pre.map Lx.bare, Lx.good x) ∧ (∀ x ∈ l, x.2.1.length ≤ 4000) := by
  obtain ⟨pre, e, hall⟩ := Lx.scan_shape (s := s) (s.length + 1) 0 (by omega) (by omega) (by have := congrArg Prod.snd h; exact this)
  have e' : l = pre ++ [(6, [], s.length)] := by rw [← e]; exact (congrArg Prod.fst h).symm
  refine ⟨pre, e', fun x hx => ?_, fun x hx => ?_⟩
  · obtain ⟨y, hy, rfl⟩ := List.mem_map.1 hx
    obtain ⟨n, ht⟩ := hall y hy
    obtain ⟨_, h2, h3⟩ := Lx.tokenAt_txt ht
    exact ⟨h2, h3⟩
  · rw [e'] at hx
    rcases List.mem_append.1 hx with hx | hx
    · obtain ⟨n, ht⟩ := hall x hx
      obtain ⟨h1, _, _⟩ := Lx.tokenAt_txt ht
      have h2 : x.2.1.length ≤ (Lx.txt x.1 x.2.1).length := by
        unfold Lx.txt
        split
        · have := Lx.esc_long x.2.1
          simp; omega
        · exact Nat.le_refl _
      have h3 : (Lx.txt x.1 x.2.1).length ≤ s.length := by rw [h1, List.length_take, List.length_drop]; omega
      omega
    · simp only [List.mem_singleton] at hx
      subst hx; simp

theorem empties : Lx.tokens [] = ([(6, [], 0)], none) := by decide

set_option maxRecDepth 100000 in
set_option maxHeartbeats 8000000 in
theorem law_back (s : ByteArray) (w : World) (ws : s.size ≤ maxLen) (henv : Env w) :
    Calls Tryd.prog 8 #[.string s] w fun e w' => e = .returned (.bool true) ∧ Below w.heap.size w w' := by
  obtain ⟨m, hm⟩ : ∃ m : Nat, m = min s.size 4001 := ⟨_, rfl⟩
  have hb := brief_any s m hm ws w
  have hts : (s.extract 0 m).size = m := take_size s m (by omega)
  generalize s.extract 0 m = t at *
  have HB := Lib.hid hb
  have HE := Lib.hid henv
  clear hb henv hm
  by_cases h4 : 4000 < t.size
  · have T := Lib.hid (fun w => tokens_full t w h4)
    clear hts h4
    go_enter Tryd.func8, Tryd.ntmps8
    go_wp2_with fail
    refine HB.out.mono ?_
    rintro e w' ⟨rfl, hw⟩
    obtain rfl : w = w' := hw
    go_wp2_with fail
    refine (T.out _).mono ?_
    rintro e w1 ⟨rfl, hb1⟩
    have HB1 := Lib.hid hb1
    clear hb1
    go_wp2_with fail
    refine (awake_any w1 (HE.out.below HE.out.2.2 HB1.out)).mono ?_
    rintro e w3 ⟨rfl, hb3⟩
    have HB3 := Lib.hid (HB1.out.trans (hb3.mono HB1.out.size))
    clear hb3
    go_wp2
    go_ret
    exact ⟨rfl, HB3.out⟩
  · have T := Lib.hid (tokens_any t w HE.out (by omega))
    have hsz : t.data.toList.length ≤ 4000 := by rw [list_len]; omega
    have HSZ := Lib.hid hsz
    clear hts h4 hsz
    go_enter Tryd.func8, Tryd.ntmps8
    go_wp2_with fail
    refine HB.out.mono ?_
    rintro e w' ⟨rfl, hw⟩
    obtain rfl : w = w' := hw
    go_wp2_with fail
    refine T.out.mono ?_
    rintro e w1 ⟨h0, hp, hb1⟩
    have HB1 := Lib.hid hb1
    have HE1 : Hid (Env w1) := Lib.hid (HE.out.below HE.out.2.2 hb1)
    clear T
    cases hres : (Lx.tokens t.data.toList).2 with
    | some p =>
      obtain rfl := hp p hres
      clear h0 hp hres hb1
      go_wp2_with fail
      refine (awake_any w1 HE1.out).mono ?_
      rintro e w3 ⟨rfl, hb3⟩
      have HB3 := Lib.hid (HB1.out.trans (hb3.mono HB1.out.size))
      clear hb3
      go_wp2
      go_ret
      exact ⟨rfl, HB3.out⟩
    | none =>
      obtain ⟨v, rfl, hrow⟩ := h0 hres
      obtain ⟨pre, hl, hgood, hsm⟩ := tokens_small (l := (Lx.tokens t.data.toList).1) (Prod.ext rfl hres) HSZ.out
      have hln := Lx.scan_len (s := t.data.toList) (t.data.toList.length + 1) 0
      rw [show Lx.scan t.data.toList (t.data.toList.length + 1) 0 = Lx.tokens t.data.toList from rfl] at hln
      generalize (Lx.tokens t.data.toList).1 = L at *
      obtain ⟨K, hK⟩ : ∃ K, K = pre.length := ⟨_, rfl⟩
      have hKL : K + 1 = L.length := by rw [hl, hK]; simp
      rw [← hKL] at hrow hln
      have hK4 : K + 1 ≤ 4001 := by have := HSZ.out; omega
      have J := join_any L (K + 1) hKL (by omega) hK4 v _ w1 HE1.out hrow hsm
      have hjoin : Lx.join L = Lx.joinGo [] true (pre.map Lx.bare) := by
        unfold Lx.join
        rw [hl, List.map_append]
        exact Lx.joinGo_good _ _ hgood
      rw [hjoin] at J
      obtain ⟨g, cap, rfl, hgc, hgm⟩ := row_form hrow (by omega)
      unfold maxLen at hgm
      have HJ := Lib.hid J
      have HW := Lib.hid hrow
      have HKL := Lib.hid hKL
      have HLp := Lib.hid hl
      have HKp := Lib.hid hK
      have HG := Lib.hid hgood
      have HSM := Lib.hid hsm
      clear h0 hp hres hb1 hrow hKL hl hK hgood hsm hjoin J hln
      go_wp2_with fail
      refine HJ.out.mono ?_
      rintro e w2 ⟨rfl, hb2⟩
      have HB12 := Lib.hid hb2
      have HB2 := Lib.hid (HB1.out.trans (hb2.mono HB1.out.size))
      have HE2 : Hid (Env w2) := Lib.hid (HE1.out.below HE1.out.2.2 hb2)
      clear hb2 HJ
      cases hj : Lx.joinGo [] true (pre.map Lx.bare) with
      | none =>
        clear hj
        unfold joinV
        go_wp2_with fail
        refine (awake_any w2 HE2.out).mono ?_
        rintro e w3 ⟨rfl, hb3⟩
        have HB3 := Lib.hid (HB2.out.trans (hb3.mono HB2.out.size))
        clear hb3
        go_wp2
        go_ret
        exact ⟨rfl, HB3.out⟩
      | some u =>
        obtain ⟨hu, hu4⟩ := Lx.joinGo_some [] true u HG.out (by simp) hj
        have hu' : u = Lx.jt (pre.map Lx.bare) := by
          rw [hu]
          by_cases he : pre.map Lx.bare = []
          · rw [he]; rfl
          · simp [he]
        obtain ⟨pre2, ht2, hbare⟩ := Lx.tokens_jt HG.out
        rw [← hu'] at ht2
        have hK2 : K = pre2.length := by have e := congrArg List.length hbare; rw [List.length_map, List.length_map] at e; rw [HKp.out, e]
        have T2 := tokens_any ⟨u.toArray⟩ w2 HE2.out (by rw [show (⟨u.toArray⟩ : ByteArray).size = u.length by simp [ByteArray.size]]; exact hu4)
        unfold TokPost at T2
        rw [show (⟨u.toArray⟩ : ByteArray).data.toList = u from rfl, ht2] at T2
        have HT2 := Lib.hid T2
        obtain ⟨pre3, hl3, hgood3, hsm3⟩ := tokens_small ht2 hu4
        have hp3 : pre3 = pre2 := by
          have := List.append_inj' hl3 (by simp)
          exact this.1.symm
        rw [hp3] at hgood3
        have hsm2 : ∀ x ∈ pre2, x.2.1.length ≤ 4000 := fun x hx => hsm3 x (List.mem_append_left _ hx)
        have hj2 : Lx.join pre2 = some u := by unfold Lx.join; rw [hbare]; exact hj
        have HJ2 := Lib.hid hj2
        have HSM2 := Lib.hid hsm2
        have HK2 := Lib.hid hK2
        have HBare : Hid (∀ i (h1 : i < L.length) (h2 : i < (pre2 ++ [((6 : Int), ([] : List UInt8), u.length)]).length), Lx.bare L[i] = Lx.bare (pre2 ++ [((6 : Int), ([] : List UInt8), u.length)])[i]) := Lib.hid fun i h1 h2 => by
          have e : L.map Lx.bare = (pre2 ++ [((6 : Int), ([] : List UInt8), u.length)]).map Lx.bare := by
            rw [HLp.out, List.map_append, List.map_append, hbare]; rfl
          have e1 : (L.map Lx.bare)[i]? = ((pre2 ++ [((6 : Int), ([] : List UInt8), u.length)]).map Lx.bare)[i]? := by rw [e]
          rw [List.getElem?_map, List.getElem?_map, List.getElem?_eq_getElem h1, List.getElem?_eq_getElem h2] at e1
          exact Option.some.inj e1
        have hlen2 : (pre2 ++ [((6 : Int), ([] : List UInt8), u.length)]).length = K + 1 := by rw [List.length_append, ← hK2]; rfl
        have HLen2 := Lib.hid hlen2
        clear hj hu hu' ht2 hbare hK2 T2 hl3 hgood3 hsm3 hp3 hsm2 hj2 hlen2
        unfold joinV
        have HUB : Hid (u.length ≤ 4000) := Lib.hid hu4
        clear hu4
        go_wp2_with fail
        refine HT2.out.mono ?_
        rintro e w3 ⟨h0, -, hb3⟩
        obtain ⟨v2, rfl, hrow2⟩ := h0 trivial
        rw [HLen2.out] at hrow2
        have HB3 := Lib.hid (HB2.out.trans (hb3.mono HB2.out.size))
        have HE3 : Hid (Env w3) := Lib.hid (HE2.out.below HE2.out.2.2 hb3)
        have HV := Lib.hid (own_below (own_below HW.out HB12.out) hb3)
        obtain ⟨g2, cap2, rfl, hgc2, hgm2⟩ := row_form hrow2 (by omega)
        unfold maxLen at hgm2
        have HU := Lib.hid hrow2
        clear h0 hb3 hrow2 HT2
        go_wp2_with fail
        go_loopw [11] (fun i W => ∃ j n : Nat, j ≤ K + 1 ∧ i = .int .i64 j ∧ W = w3.drewN n) (fun i _ => K + 1 - (intOf i).toNat)
        case atStart => exact ⟨0, 0, Nat.zero_le _, rfl, rfl⟩
        case round =>
          obtain ⟨j, n, hj, rfl, rfl⟩ := hrel
          by_cases hlt : j < K + 1
          · have h1 : j < L.length := by rw [← HKL.out]; exact hlt
            have h2 : j < (pre2 ++ [((6 : Int), ([] : List UInt8), u.length)]).length := by rw [HLen2.out]; exact hlt
            obtain ⟨a0, a1, -⟩ := row_cells HV.out j h1 HKL.out.symm
            obtain ⟨b0, b1, -⟩ := row_cells HU.out j h2 HLen2.out
            have hbb := HBare.out j h1 h2
            simp only [Lx.bare, Prod.mk.injEq] at hbb
            rw [← hbb.1] at b0
            rw [← hbb.2] at b1
            generalize L[j].1 = x0 at *
            generalize (⟨(L[j].2.1).toArray⟩ : ByteArray) = x1 at *
            clear h1 h2 hbb
            go_wp2_with fail
            go_quiet (fail)
            go_wp2_with fail
            go_roundw
            case rel => exact ⟨j + 1, _, by omega, by go_num, rfl⟩
            case measure => simp [intOf]; omega
          · have hbn : Below w3.heap.size w3 (w3.drewN n) := below_drewN (Below.refl _ w3) n
            have HB4 := Lib.hid (HB3.out.trans (hbn.mono HB3.out.size))
            have HE4 : Hid (Env (w3.drewN n)) := Lib.hid (HE3.out.below HE3.out.2.2 hbn)
            have JJ : Hid (Calls Tryd.prog 20 #[.slice (some ⟨g2, 0, none⟩) K cap2] (w3.drewN n) fun e w' => e = .returned (.tuple #[.string ⟨u.toArray⟩, .int .i64 0]) ∧ Below (w3.drewN n).heap.size (w3.drewN n) w') := Lib.hid (by
              by_cases hK0 : K = 0
              · have hu0 : u = [] := by
                  have e := HK2.out
                  rw [hK0] at e
                  have e2 := HJ2.out
                  rw [List.eq_nil_of_length_eq_zero e.symm] at e2
                  exact (Option.some.inj e2).symm
                rw [hK0, hu0]
                exact join_zero _ _ _
              · have := join_any pre2 K HK2.out (by omega) (by omega) _ _ (w3.drewN n) HE4.out (own_below (own_front HU.out HK2.out) hbn) HSM2.out
                rw [HJ2.out] at this
                exact this)
            clear hbn
            generalize (⟨u.toArray⟩ : ByteArray) = ub at *
            go_wp2_with fail
            refine JJ.out.mono ?_
            rintro e w5 ⟨rfl, hb5⟩
            have HB5 := Lib.hid (HB4.out.trans (hb5.mono HB4.out.size))
            have HE5 : Hid (Env w5) := Lib.hid (HE4.out.below HE4.out.2.2 hb5)
            clear hb5
            go_wp2_with fail
            refine (awake_any w5 HE5.out).mono ?_
            rintro e w6 ⟨rfl, hb6⟩
            have HB6 := Lib.hid (HB5.out.trans (hb6.mono HB5.out.size))
            clear hb6
            go_wp2
            go_ret
            exact ⟨rfl, HB6.out⟩

end Go.Proofs.YtbhknpombmdhiaaDoor
