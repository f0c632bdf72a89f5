/- The statement LexisOwn: it returns true for every string. -/
import Derived.Test.YtbhknpombmdhiaaDoorListOwn
import Derived.Laws.Tables
namespace Go.Proofs.YtbhknpombmdhiaaDoor
open Go.RowKit

/-- What Tokens comes to, whatever the source is: a list (none where there is an error), and two numbers. -/
def TokU (L : List Lx.Tok) (N : Nat) (a ec : Int) (W : World) (e : Ending) (w' : World) : Prop :=
  ∃ v, e = .returned (.tuple #[v, .int .i64 a, .int .i64 ec]) ∧ (N = 0 → v = .slice none 0 0) ∧ w'.ownsRow W.heap.size 47 3 v N (cellsT L) ∧ Below W.heap.size W w'

theorem tokens_uniform (t : ByteArray) : ∃ (L : List Lx.Tok) (N : Nat) (a ec : Int), N = L.length ∧ N ≤ 4001 ∧ (∀ x ∈ L, x.2.1.length ≤ 4000) ∧ ∀ W, Env W → Calls Tryd.prog 15 #[.string t] W (TokU L N a ec W) := by
  by_cases h4 : 4000 < t.size
  · exact ⟨[], 0, 0, 5, rfl, by omega, (fun x hx => by cases hx), fun W _ => (tokens_full t W h4).mono fun e w' ⟨he, hb⟩ => ⟨_, he, fun _ => rfl, World.ownsRow_nil _ _ _ _, hb⟩⟩
  · cases hres : (Lx.tokens t.data.toList).2 with
    | some p =>
      exact ⟨[], 0, (p : Nat), 4, rfl, by omega, (fun x hx => by cases hx), fun W hW => (tokens_any t W hW (by omega)).mono fun e w' ⟨_, hp, hb⟩ => ⟨_, hp p hres, fun _ => rfl, World.ownsRow_nil _ _ _ _, hb⟩⟩
    | none =>
      obtain ⟨pre, hl, _, hsm⟩ := tokens_small (l := (Lx.tokens t.data.toList).1) (Prod.ext rfl hres) (by rw [list_len]; omega)
      have hln := Lx.scan_len (s := t.data.toList) (t.data.toList.length + 1) 0
      rw [show Lx.scan t.data.toList (t.data.toList.length + 1) 0 = Lx.tokens t.data.toList from rfl, list_len] at hln
      refine ⟨(Lx.tokens t.data.toList).1, _, 0, 0, rfl, by omega, hsm, fun W hW => (tokens_any t W hW (by omega)).mono fun e w' ⟨h0, _, hb⟩ => ?_⟩
      obtain ⟨v, rfl, hrow⟩ := h0 hres
      exact ⟨v, rfl, (fun h => by rw [hl] at h; simp at h), hrow, hb⟩

theorem tab_below {w W : World} {n : Nat} (h : Lib.TabIs Tryd.prog w "strings.asciiSpace" .u8 Lib.asciiSpaceTab) (hn : 8 ≤ n) (hb : Below n w W) : Lib.TabIs Tryd.prog W "strings.asciiSpace" .u8 Lib.asciiSpaceTab := by
  have hg : Tryd.prog.globalNamed "strings.asciiSpace" = some 0 := by kernel_rfl
  unfold Lib.TabIs at h ⊢
  simp only [World.var?, hg, Option.bind_some] at h ⊢
  rw [hb.block 0 (by omega)]; exact h

theorem own_only {W W' : World} {b S n : Nat} {v : Value} {xs : List Value} (h : W.ownsRow b 47 3 v n xs) (ho : Only S W W') (hne : ∀ gb, v.ownBlock = some gb → gb ≠ S) : W'.ownsRow b 47 3 v n xs := by
  refine ⟨h.1, ?_⟩
  rcases h.2 with h0 | ⟨g, cap, cur, rfl, hb, hg, r⟩
  · exact .inl h0
  · exact .inr ⟨g, cap, cur, rfl, hb, (ho.block g (Array.getElem?_eq_some_iff.1 hg).1 (hne g rfl)).trans hg, r⟩
theorem row_set {W : World} {g i : Nat} {cur : Array Value} {t : TypeId} (h : W.heap[g]? = some (.cells cur t (0, 0))) (v : Value) : (W.setCell ⟨g, i, none⟩ v).heap[g]? = some (.cells (cur.setIfInBounds i v) t (0, 0)) := by
  rw [setCell_eq_setRow _ _ _ _ _ _ _ h]; exact setRow_heap _ _ _ _ _ _ h

set_option maxRecDepth 100000 in
set_option maxHeartbeats 8000000 in
theorem law_own (s : ByteArray) (w : World) (ws : s.size ≤ maxLen) (henv : EnvN w) :
    Calls Tryd.prog 13 #[.string s] w fun e w' => e = .returned (.bool true) ∧ Below w.heap.size w w' := by
  obtain ⟨m, hm⟩ : ∃ m : Nat, m = min s.size 4001 := ⟨_, rfl⟩
  have hb := brief_any s m hm ws w
  generalize s.extract 0 m = t at *
  obtain ⟨L, N, a, ec, hN, hN4, hsm, TT⟩ := tokens_uniform t
  obtain ⟨k, hk⟩ : ∃ k, k = min N 2002 := ⟨_, rfl⟩
  have hkL : k = (L.take k).length := by rw [List.length_take]; omega
  have HB := Lib.hid hb
  have HE := Lib.hid henv
  have HT := Lib.hid TT
  have HN := Lib.hid hN
  have HSM := Lib.hid hsm
  have HK := Lib.hid hk
  have HKL := Lib.hid hkL
  have hmi : min (N : Int) 2002 = (k : Int) := by omega
  have hkN : k ≤ N := by omega
  have h8 := henv.1.2.2
  clear hb henv hm hN hsm TT hk hkL
  go_enter Tryd.func13, Tryd.ntmps13
  go_wp2_with fail
  refine HB.out.mono ?_
  rintro e w' ⟨rfl, hw⟩
  obtain rfl : w = w' := hw
  go_wp2_with fail
  refine (HT.out _ HE.out.1).mono ?_
  rintro e w1 ⟨v, rfl, hnil, hrow, hb1⟩
  have HB1 := Lib.hid hb1
  have hz1 := hb1.size
  obtain ⟨p, cap, rfl⟩ := own_form hrow
  have hcapN : N ≤ cap ∧ cap ≤ 9223372036854775807 := by
    rcases Nat.eq_zero_or_pos N with h0 | h0
    · have := hnil h0
      cases this; omega
    · obtain ⟨g, cap', e, h1, h2⟩ := row_form hrow h0
      cases e; unfold maxLen at h2; omega
  obtain ⟨hc1, hc2⟩ := hcapN
  have hpg : 0 < N → ∃ g, p = some ⟨g, 0, none⟩ ∧ w.heap.size ≤ g ∧ g < w1.heap.size := fun h0 => by
    obtain ⟨g, cap', e, _, _⟩ := row_form hrow h0
    cases e
    have := hrow.lt g rfl
    exact ⟨g, rfl, this.1, this.2⟩
  have LT : Calls Tryd.prog 19 #[.slice p N cap] w1 fun e w' => ∃ u, e = .returned u ∧ w'.ownsRow w1.heap.size 47 3 u k (cellsT (L.take k)) ∧ (k = 0 → u = .slice none 0 0) ∧ Below w1.heap.size w1 w' := by
    rcases Nat.eq_zero_or_pos N with h0 | h0
    · have e := hnil h0
      have hk0 : k = 0 := by omega
      have hL0 : L.take k = [] := by rw [hk0]; rfl
      rw [e, hL0, hk0]
      exact (list_nil_any w1).mono fun e w' ⟨he, hw⟩ => ⟨_, he, World.ownsRow_nil _ _ _ _, fun _ => rfl, by rw [← hw]; exact Below.refl _ _⟩
    · obtain ⟨g, rfl, _, _⟩ := hpg h0
      exact (list_any L N k HN.out HK.out h0 g cap _ w1 hrow).mono fun e w' ⟨u, he, ho, hb⟩ => ⟨u, he, ho, fun hk0 => by have := HK.out; omega, hb⟩
  have HLT := Lib.hid LT
  have HV := Lib.hid hrow
  have HNil := Lib.hid hnil
  have HPG := Lib.hid hpg
  clear LT hrow hb1 hnil hpg
  go_wp2_with fail
  refine HLT.out.mono ?_
  rintro e w2 ⟨u, rfl, hu, hunil, hb2⟩
  have HU2 := Lib.hid hu
  have HUN := Lib.hid hunil
  have HB12 := Lib.hid hb2
  have HB2 := Lib.hid (HB1.out.trans (hb2.mono hz1))
  have hz2 := hb2.size
  clear hu hunil hb2 HLT
  have W3 := Lib.hid (words_any w2 (tab_below HE.out.2 h8 HB2.out))
  go_wp2_with fail
  refine W3.out.mono ?_
  rintro e w3 ⟨rfl, hw3⟩
  have hb3 : Below w2.heap.size w2 w3 := by rw [hw3]; exact (Below.refl _ _).alloc (Nat.le_refl _) _
  have hg3 : w3.heap[w2.heap.size]? = some (.cells wordCells 9 (0, 0)) := by rw [hw3]; exact World.alloc_heap_new w2 _
  have HG3 := Lib.hid hg3
  have HB13 := Lib.hid (HB12.out.trans (hb3.mono hz2))
  have HB3 := Lib.hid (HB2.out.trans (hb3.mono HB2.out.size))
  have HU3 := Lib.hid (own_below HU2.out hb3)
  have hz3 := hb3.size
  have hE3 : Env w3 := HE.out.1.below h8 HB3.out
  have HE3 := Lib.hid hE3
  have JT : Calls Tryd.prog 20 #[.slice p N cap] w3 fun e w' => (∃ x c, e = .returned (.tuple #[.string x, .int .i64 c])) ∧ Below w3.heap.size w3 w' := by
    rcases Nat.eq_zero_or_pos N with h0 | h0
    · rw [h0]
      exact (join_zero p cap w3).mono fun e w' ⟨he, hb⟩ => ⟨⟨_, _, he⟩, hb⟩
    · refine (join_any L N HN.out h0 hN4 _ _ w3 hE3 (own_below HV.out HB13.out) HSM.out).mono fun e w' ⟨he, hb⟩ => ⟨?_, hb⟩
      cases hj : Lx.join L with
      | none => rw [hj] at he; exact ⟨_, _, he⟩
      | some u => rw [hj] at he; exact ⟨_, _, he⟩
  have HJT := Lib.hid JT
  clear hw3 hb3 hg3 hE3 JT W3
  go_wp2_with fail
  refine HJT.out.mono ?_
  rintro e w4 ⟨⟨x, c, rfl⟩, hb4⟩
  have HB4 := Lib.hid (HB3.out.trans (hb4.mono HB3.out.size))
  have HB14 := Lib.hid (HB13.out.trans (hb4.mono HB13.out.size))
  have HU4 := Lib.hid (own_below HU3.out hb4)
  have HG4 : Hid (w4.heap[w2.heap.size]? = some (.cells wordCells 9 (0, 0))) := Lib.hid ((hb4.block _ (block_lt HG3.out)).trans HG3.out)
  have hz4 := hb4.size
  clear hb4 HJT
  have ST : ∀ (W : World) (bv : Nat) (p : Option Addr) (cap : Nat), (N = 0 → Value.slice p N cap = .slice none 0 0) → W.ownsRow bv 47 3 (.slice p N cap) N (cellsT L) → W.ownsRow w1.heap.size 47 3 u k (cellsT (L.take k)) → Calls Tryd.prog 17 #[.slice p k cap, u] W fun e w' => e = .returned (.bool true) ∧ Below W.heap.size W w' := fun W bv p cap hn hv hu => by
    rcases Nat.eq_zero_or_pos N with h0 | h0
    · have hk0 : k = 0 := by omega
      have e1 := hn h0
      rw [h0] at e1
      rw [HUN.out hk0, hk0, e1]
      exact same_nil W
    · obtain ⟨g, cap', e, _, _⟩ := row_form hv h0
      cases e
      exact same_rows (L.take k) k HKL.out _ u _ _ W (by have := HK.out; omega) (own_front (l1 := L.take k) (l2 := L.drop k) (by rw [List.take_append_drop]; exact hv) HKL.out) hu
  have HST := Lib.hid ST
  have ST4 := Lib.hid (ST w4 _ p cap HNil.out (own_below HV.out HB14.out) HU4.out)
  clear ST
  go_wp2_with fail
  refine ST4.out.mono ?_
  rintro e w5 ⟨rfl, hb5⟩
  have HB5 := Lib.hid (HB4.out.trans (hb5.mono HB4.out.size))
  have HB15 := Lib.hid (HB14.out.trans (hb5.mono HB14.out.size))
  have HU5 := Lib.hid (own_below HU4.out hb5)
  have HG5 : Hid (w5.heap[w2.heap.size]? = some (.cells wordCells 9 (0, 0))) := Lib.hid ((hb5.block _ (block_lt HG4.out)).trans HG4.out)
  have hz5 := hb5.size
  have hz52 : w2.heap.size < w5.heap.size := block_lt HG5.out
  clear hb5 ST4
  obtain ⟨g, hpg, hgw, hgne, hug, hrowg⟩ : ∃ g, (0 < N → p = some ⟨g, 0, none⟩) ∧ w.heap.size ≤ g ∧ ¬ w2.heap.size = g ∧ (∀ gb, u.ownBlock = some gb → gb ≠ g) ∧ (0 < N → ∃ cur, w5.heap[g]? = some (.cells cur 47 (0, 0)) ∧ N * 3 ≤ cur.size) := by
    rcases Nat.eq_zero_or_pos N with h0 | h0
    · refine ⟨w5.heap.size, fun h => by omega, HB5.out.size, by omega, fun gb hgb e => ?_, fun h => by omega⟩
      have := (HU5.out.lt gb hgb).2
      omega
    · obtain ⟨g, e, h1, h2⟩ := HPG.out h0
      refine ⟨g, fun _ => e, h1, by omega, fun gb hgb e => ?_, fun _ => ?_⟩
      · have := (HU5.out.lt gb hgb).1
        omega
      · have hv5 := own_below HV.out HB15.out
        rw [e] at hv5
        rcases hv5.2 with ⟨e0, _⟩ | ⟨g', cap', cur, e2, _, hg, hn, _, hc, _⟩
        · cases e0
        · cases e2
          exact ⟨cur, hg, by omega⟩
  have HP := Lib.hid hpg
  have HUG := Lib.hid hug
  have HRG := Lib.hid hrowg
  clear hpg hug hrowg
  go_wp2_with fail
  go_loopw [9] (fun i W => ∃ j : Nat, j ≤ N ∧ i = .int .i64 j ∧ w5.heap.size ≤ W.heap.size ∧ Hid (Only g w5 W ∧ (0 < N → ∃ cur, W.heap[g]? = some (.cells cur 47 (0, 0)) ∧ N * 3 ≤ cur.size))) (fun i _ => N - (intOf i).toNat)
  case atStart => exact ⟨0, Nat.zero_le _, rfl, Nat.le_refl _, Lib.hid ⟨Only.refl _ _, HRG.out⟩⟩
  case round =>
    obtain ⟨j, hj, rfl, hzr, hR⟩ := hrel
    by_cases hlt : j < N
    · obtain ⟨cur, hcur, hcs⟩ := hR.out.2 (by omega)
      obtain rfl := HP.out (by omega)
      have f0 : wr.cell? ⟨g, j * 3, none⟩ = some (cur[j * 3]'(by omega)) := cell_of hcur (Array.getElem?_eq_getElem _)
      have f1 : wr.cell? ⟨g, j * 3 + 1, none⟩ = some (cur[j * 3 + 1]'(by omega)) := cell_of hcur (Array.getElem?_eq_getElem _)
      have f2 : wr.cell? ⟨g, j * 3 + 2, none⟩ = some (cur[j * 3 + 2]'(by omega)) := cell_of hcur (Array.getElem?_eq_getElem _)
      have z0 : wr.frozen? ⟨g, j * 3, none⟩ = false := frozen_of hcur
      have z1 : wr.frozen? ⟨g, j * 3 + 1, none⟩ = false := frozen_of hcur
      have z2 : wr.frozen? ⟨g, j * 3 + 2, none⟩ = false := frozen_of hcur
      have HCU := Lib.hid hcur
      have HCS := Lib.hid hcs
      have HO := Lib.hid hR.out.1
      generalize cur[j * 3]'(by omega) = q0 at *
      generalize cur[j * 3 + 1]'(by omega) = q1 at *
      generalize cur[j * 3 + 2]'(by omega) = q2 at *
      clear hcur hcs hR
      go_wp2_with fail
      have hset : ∀ a b c : Value, Only g w5 (((wr.setCell ⟨g, j * 3, none⟩ a).setCell ⟨g, j * 3 + 1, none⟩ b).setCell ⟨g, j * 3 + 2, none⟩ c) ∧ (0 < N → ∃ cur, (((wr.setCell ⟨g, j * 3, none⟩ a).setCell ⟨g, j * 3 + 1, none⟩ b).setCell ⟨g, j * 3 + 2, none⟩ c).heap[g]? = some (.cells cur 47 (0, 0)) ∧ N * 3 ≤ cur.size) := fun a b c =>
        ⟨((HO.out.set a).set b).set c, fun _ => ⟨_, row_set (row_set (row_set HCU.out a) b) c, by simpa using HCS.out⟩⟩
      have HS := Lib.hid hset
      clear hset
      go_roundw
      case rel => exact ⟨j + 1, by omega, by go_num, by simpa using hzr, Lib.hid (HS.out _ _ _)⟩
      case measure => simp [intOf]; omega
    · obtain ⟨w6, rfl⟩ : ∃ w6 : World, w6 = wr := ⟨_, rfl⟩
      have HO6 := Lib.hid hR.out.1
      have HB56 := Lib.hid (hR.out.1.below hgw HB5.out.size)
      have HB6 := Lib.hid (HB5.out.trans HB56.out)
      have HU6 := Lib.hid (own_only HU5.out hR.out.1 HUG.out)
      have HG6 : Hid (w6.heap[w2.heap.size]? = some (.cells wordCells 9 (0, 0))) := Lib.hid ((hR.out.1.block _ hz52 hgne).trans HG5.out)
      have hz6 : w2.heap.size < w6.heap.size := by omega
      clear hR
      go_wp2_with fail
      go_loopw [10] (fun i W => ∃ j : Nat, j ≤ 46 ∧ i = .int .i64 j ∧ w6.heap.size ≤ W.heap.size ∧ Hid (Only w2.heap.size w6 W ∧ ∃ cur, W.heap[w2.heap.size]? = some (.cells cur 9 (0, 0)) ∧ cur.size = 46)) (fun i _ => 46 - (intOf i).toNat)
      case atStart => exact ⟨0, by omega, rfl, Nat.le_refl _, Lib.hid ⟨Only.refl _ _, _, HG6.out, rfl⟩⟩
      case round =>
        obtain ⟨j, hj, rfl, hzr, hR⟩ := hrel
        by_cases hlt : j < 46
        · obtain ⟨cur, hcur, hcs⟩ := hR.out.2
          have f0 : wr.cell? ⟨w2.heap.size, j, none⟩ = some (cur[j]'(by omega)) := cell_of hcur (Array.getElem?_eq_getElem _)
          have z0 : wr.frozen? ⟨w2.heap.size, j, none⟩ = false := frozen_of hcur
          have HCU := Lib.hid hcur
          have HCS := Lib.hid hcs
          have HO := Lib.hid hR.out.1
          generalize cur[j]'(by omega) = q0 at *
          clear hcur hcs hR
          go_wp2_with fail
          have HS : Hid (∀ a : Value, Only w2.heap.size w6 (wr.setCell ⟨w2.heap.size, j, none⟩ a) ∧ ∃ cur, (wr.setCell ⟨w2.heap.size, j, none⟩ a).heap[w2.heap.size]? = some (.cells cur 9 (0, 0)) ∧ cur.size = 46) := Lib.hid fun a => ⟨HO.out.set a, _, row_set HCU.out a, by simpa using HCS.out⟩
          go_roundw
          case rel => exact ⟨j + 1, by omega, by go_num, by simpa using hzr, Lib.hid (HS.out _)⟩
          case measure => simp [intOf]; omega
        · obtain ⟨w7, rfl⟩ : ∃ w7 : World, w7 = wr := ⟨_, rfl⟩
          have HB67 := Lib.hid (hR.out.1.below HB2.out.size HB6.out.size)
          have HB7 := Lib.hid (HB6.out.trans HB67.out)
          have HU7 := Lib.hid (own_only HU6.out hR.out.1 (fun gb hgb => by have := (HU2.out.lt gb hgb).2; omega))
          have HE7 : Hid (Env w7) := Lib.hid (HE.out.1.below h8 HB7.out)
          clear hR
          go_wp2_with fail
          refine (HT.out _ HE7.out).mono ?_
          rintro e w8 ⟨v8, rfl, hnil8, hrow8, hb8⟩
          obtain ⟨p8, cap8, rfl⟩ := own_form hrow8
          have hc8 : N ≤ cap8 ∧ cap8 ≤ 9223372036854775807 := by
            rcases Nat.eq_zero_or_pos N with h0 | h0
            · have := hnil8 h0
              cases this; omega
            · obtain ⟨g', cap', e, h1, h2⟩ := row_form hrow8 h0
              cases e; unfold maxLen at h2; omega
          obtain ⟨hc81, hc82⟩ := hc8
          have HB8 := Lib.hid (HB7.out.trans (hb8.mono HB7.out.size))
          have HU8 := Lib.hid (own_below HU7.out hb8)
          have HV8 := Lib.hid hrow8
          have HN8 := Lib.hid hnil8
          have W9 := Lib.hid (words_any w8 (tab_below HE.out.2 h8 HB8.out))
          clear hb8 hrow8 hnil8
          go_wp2_with fail
          refine W9.out.mono ?_
          rintro e w9 ⟨rfl, hw9⟩
          have hb9 : Below w8.heap.size w8 w9 := by rw [hw9]; exact (Below.refl _ _).alloc (Nat.le_refl _) _
          have c9 : w9.cell? ⟨w8.heap.size, 0, none⟩ = some (.string ⟨#[97, 102, 116, 101, 114]⟩) := by rw [hw9]; exact word_cells w8 0 (by omega)
          have HB9 := Lib.hid (HB8.out.trans (hb9.mono HB8.out.size))
          have HC9 := Lib.hid c9
          have ST9 := Lib.hid (HST.out w9 _ p8 cap8 HN8.out (own_below HV8.out hb9) (own_below HU8.out hb9))
          have hg9 : w8.heap.size < w9.heap.size := by rw [hw9]; simp
          clear hb9 hw9 c9 W9
          go_wp2_with fail
          refine ST9.out.mono ?_
          rintro e w10 ⟨rfl, hb10⟩
          have c10 : w10.cell? ⟨w8.heap.size, 0, none⟩ = some (.string ⟨#[97, 102, 116, 101, 114]⟩) := (hb10.cell (p := ⟨w8.heap.size, 0, none⟩) hg9).trans HC9.out
          have HB10 := Lib.hid (HB9.out.trans (hb10.mono HB9.out.size))
          have HE10 : Hid (Env w10) := Lib.hid (HE.out.1.below h8 HB10.out)
          clear hb10
          go_wp2_with fail
          refine (awake_any w10 HE10.out).mono ?_
          rintro e w11 ⟨rfl, hb11⟩
          have HB11 := Lib.hid (HB10.out.trans (hb11.mono HB10.out.size))
          clear hb11
          go_wp2
          go_ret
          exact ⟨rfl, HB11.out⟩

end Go.Proofs.YtbhknpombmdhiaaDoor
