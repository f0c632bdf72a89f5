/- What holders does: the parties that hold something, ascending. -/
import Derived.Test.YtpkldcnkadfhgaaBools
namespace Go.Proofs.Ytpkldcnkadfhgaa
open Go.RowKit

namespace Lk
theorem keys_ext : ∀ {l1 l2 : KV}, Asc l1 → Asc l2 → (∀ k, khas l1 k = khas l2 k) → l1.map (·.1) = l2.map (·.1)
  | [], [], _, _, _ => rfl
  | [], q :: s, _, _, h => by have := h q.1; simp [khas] at this
  | p :: r, [], _, _, h => by have := h p.1; simp [khas] at this
  | p :: r, q :: s, h1, h2, h => by
    obtain ⟨a1, a2⟩ := List.pairwise_cons.1 h1
    obtain ⟨b1, b2⟩ := List.pairwise_cons.1 h2
    have e : p.1 = q.1 := by
      have x1 := h p.1
      have x2 := h q.1
      by_cases hlt : p.1 = q.1
      · exact hlt
      · have y1 : khas s p.1 = true := by simpa [khas, Ne.symm hlt] using x1
        have y2 : khas r q.1 = true := by simpa [khas, hlt] using x2
        obtain ⟨v1, m1⟩ := khas_mem.1 y1
        obtain ⟨v2, m2⟩ := khas_mem.1 y2
        have := b1 _ m1
        have := a1 _ m2
        simp only at *
        omega
    have hr0 : khas r p.1 = false := by
      cases hc : khas r p.1 with
      | false => rfl
      | true => obtain ⟨v, m⟩ := khas_mem.1 hc; have := a1 _ m; simp at this
    have hs0 : khas s q.1 = false := by
      cases hc : khas s q.1 with
      | false => rfl
      | true => obtain ⟨v, m⟩ := khas_mem.1 hc; have := b1 _ m; simp at this
    have ih := keys_ext a2 b2 fun k => by
      by_cases hk : k = p.1
      · rw [hk, hr0, e, hs0]
      · have := h k
        have hk' : ¬ q.1 = k := fun e' => hk (by rw [e, e'])
        have hk'' : ¬ p.1 = k := fun e' => hk e'.symm
        simpa [khas, hk', hk''] using this
    simp [e, ih]
/-- Whoever holds something. -/
def heldSet (t : T) : KV := (t.ls.flatMap (·.held)).foldl (fun m p => kput p.1 1 m) []
theorem foldput : ∀ (xs : List (Int × Int)) (m : KV), Asc m → Asc (xs.foldl (fun m p => kput p.1 1 m) m) ∧ ∀ k, khas (xs.foldl (fun m p => kput p.1 1 m) m) k = (khas m k || xs.any fun p => decide (p.1 = k))
  | [], m, h => ⟨h, fun k => by simp⟩
  | p :: r, m, h => by
    obtain ⟨i1, i2⟩ := foldput r (kput p.1 1 m) (h.put _ _)
    refine ⟨i1, fun k => ?_⟩
    rw [List.foldl_cons, i2 k, khas_put, List.any_cons]
    by_cases hk : k = p.1
    · simp [hk]
    · simp [hk, Ne.symm hk]
theorem heldSet_asc (t : T) : Asc (heldSet t) := (foldput _ _ List.Pairwise.nil).1
theorem heldSet_has (t : T) (k : Int) : khas (heldSet t) k = true ↔ ∃ j l, j < t.ls.length ∧ t.ls[j]? = some l ∧ khas l.held k = true := by
  rw [show khas (heldSet t) k = _ from (foldput _ [] List.Pairwise.nil).2 k]
  simp only [khas, Bool.false_or, List.any_eq_true, List.mem_flatMap, decide_eq_true_eq]
  constructor
  · rintro ⟨p, ⟨l, hl, hp⟩, rfl⟩
    obtain ⟨j, hj, hjl⟩ := List.getElem_of_mem hl
    exact ⟨j, l, hj, by rw [List.getElem?_eq_getElem hj, hjl], khas_mem.2 ⟨p.2, hp⟩⟩
  · rintro ⟨j, l, hj, hl, h⟩
    obtain ⟨v, hv⟩ := khas_mem.1 h
    exact ⟨(k, v), ⟨l, List.mem_of_getElem? hl, hv⟩, rfl⟩
def holders (t : T) : List Int := (heldSet t).map (·.1)
theorem length_put_le (k v : Int) (l : KV) : (kput k v l).length ≤ l.length + 1 := by
  unfold kput
  rw [length_ins]
  have := length_del_le k l
  omega
end Lk

theorem mapD_not {l : Lk.KV} {k : Int} {zd : DataW Unit} (h : Lk.khas l k = false) : (mapD l).atKey (.int .i64 k) zd = zd := by
  induction l with
  | nil => rfl
  | cons p r ih =>
    obtain ⟨a, b⟩ := p
    have h1 : ¬ a = k ∧ Lk.khas r k = false := by simpa [Lk.khas] using h
    have ih := ih h1.2
    unfold mapD mapE at ih ⊢
    unfold DataW.atKey at ih ⊢
    simp only [List.map_cons, List.find?_cons, same_int, h1.1, decide_false]
    exact ih
theorem wpList_putB (w : World) {ops : Array Oper} {rest : List Oper} {o : Oper} {a : Act} {Q : Exit → Act → World → Prop} (hg : o.guard = none) (m x v : Operand) (hop : o.op = Op.mapUpdate 108 m x v) (b : Nat) (l : Lk.KV) (k : Int) (hm : a.eval m = .map (some b)) (h : MapB w b l) (hx : a.eval x = .int .i64 k) (hv : a.eval v = .bool true) (hk : (Lit.int .i64 k).wf = true) (hn : l.length < maxLen)
    (hK : ∀ w', MapB w' b (Lk.kput k 1 l) → w.mapTurned w' b → wpList Try.prog ops Q rest (a.put o.dst undef) w') : wpList Try.prog ops Q (o :: rest) a w :=
  wpList_mapUpdate_in w hg m x v 108 hop 3 4 K3 Try.underlying108 _ b _ (mapBD l) hm h hn _ _ _ hx hv (key_int hk) _ _ (plainElem_bool Try.underlying4 true) fun w' h1 h2 => hK w' (MapB.of (by rw [← mapBD_put l k 1]; exact h1)) h2

/-- The map that is filled. -/
structure Hd (w0 : World) (pb : Nat) (P : Int → Prop) (N : Nat) (wt : World) : Prop where
  ex : ∃ m, MapB wt pb m ∧ Lk.Asc m ∧ (∀ k, Lk.khas m k = true ↔ P k) ∧ m.length ≤ N
  bel : Below w0.heap.size w0 wt
section
variable {w0 wt W : World} {pb : Nat} {P Q : Int → Prop} {N M : Nat}
theorem Hd.new (w : World) : Hd w w.heap.size (fun _ => False) 0 (w.alloc (.map #[] 0)) := ⟨⟨[], MapB.new w, List.Pairwise.nil, fun k => by simp [Lk.khas], Nat.le_refl _⟩, one _ _⟩
theorem Hd.conv (h : Hd w0 pb P N wt) (hP : ∀ k, P k ↔ Q k) (hN : N ≤ M) : Hd w0 pb Q M wt := by
  obtain ⟨⟨m, h1, h2, h3, h4⟩, h5⟩ := h
  exact ⟨⟨m, h1, h2, fun k => (h3 k).trans (hP k), by omega⟩, h5⟩
theorem Hd.grown {b : Nat} (h : Hd w0 pb P N wt) (hg : wt.grownBy W (some b)) (hb : w0.heap.size ≤ b) (hne : b ≠ pb) : Hd w0 pb P N W := by
  obtain ⟨⟨m, h1, h2, h3, h4⟩, h5⟩ := h
  exact ⟨⟨m, h1.of_eq (hg.block pb h1.lt (by simpa using Ne.symm hne)), h2, h3, h4⟩, h5.grown hg h5.size (fun j hj => by cases hj; exact hb)⟩
theorem Hd.grown0 (h : Hd w0 pb P N wt) (hg : wt.grownBy W none) : Hd w0 pb P N W := by
  obtain ⟨⟨m, h1, h2, h3, h4⟩, h5⟩ := h
  exact ⟨⟨m, h1.of_eq (hg.block pb h1.lt (by simp)), h2, h3, h4⟩, h5.grown hg h5.size (fun j hj => by cases hj)⟩
end

set_option maxRecDepth 100000 in
set_option maxHeartbeats 4000000 in
theorem holders_any (bl : Blocks) (tb : Nat) (t : Lk.T) (w : World) (h : Tab w bl tb t) : Calls Try.prog 45 #[.pointer (some ⟨tb, 0, none⟩)] w (lineNew w (Lk.holders t)) := by
  obtain ⟨⟨lv, wv, ls, hR0⟩, hok⟩ := h
  obtain ⟨q, cap, rfl, hcap, hcm, hq⟩ := hR0.form
  have hmm := @run_makeMap Try.prog
  have hn16 := hok.n16
  have hlen := hR0.len
  have htb := hR0.lt _ _ hR0.hT
  have c0 : w.cell? ⟨tb, 0, none⟩ = some (.slice q ls.length cap) := hR0.blk.cell 0 (by omega)
  have HR0 := Lib.hid hR0
  have HQ := Lib.hid hq
  have HOK := Lib.hid hok
  have HD0 := Lib.hid (Hd.new w)
  have hml := maxLen_big
  clear hR0 hq hok
  unfold lineNew
  go_enter Try.func45, Try.ntmps45
  go_wp2_with fail
  go_loopw [13] (fun vi wt => ∃ i : Nat, i ≤ t.ls.length ∧ vi = .int .i64 i ∧ Hd w w.heap.size (fun k => ∃ j l, j < i ∧ t.ls[j]? = some l ∧ Lk.khas l.held k = true) (16 * i) wt) (fun vi _ => t.ls.length - (intOf vi).toNat)
  case atStart => exact ⟨0, Nat.zero_le _, rfl, HD0.out.conv (fun k => by simp) (by omega)⟩
  case round =>
    obtain ⟨i, hi, rfl, hD⟩ := hrel
    by_cases hlt : i < t.ls.length
    · obtain ⟨l, hl⟩ : ∃ l, t.ls[i]? = some l := ⟨_, List.getElem?_eq_getElem hlt⟩
      obtain ⟨lb, hb, e3, els, e4, e5, hK⟩ := HR0.out.lock i l hl
      obtain ⟨g, rfl, hg, hgc⟩ := HQ.out (by omega)
      have cg : wr.cell? ⟨g, i, none⟩ = some (.pointer (some ⟨lb, 0, none⟩)) := cell_of hD.bel (hgc i lb els)
      have hb2 : wr.cell? ⟨lb, 2, none⟩ = some (.map (some hb)) := cell_of hD.bel (hK.blk.cell 2 (by omega))
      have hM := hK.map.below hD.bel
      have hbw := hK.map.lt
      have HL := Lib.hid hl
      have hhl := (HOK.out.ok l (List.mem_of_getElem? hl)).held_len
      have hszr := hD.bel.size
      have hlt2 : (i : Int) < (ls.length : Int) := by omega
      obtain ⟨r, hr⟩ : ∃ r, r = wr.heap.size := ⟨_, rfl⟩
      have HM := Lib.hid hM
      have HD := Lib.hid hD
      clear hM hD hK hgc hl
      go_wp2_with (at_range; refine wpList_range_own _ (by rfl) (.tmp 20) 66 (by rfl) 3 3 K3 Try.underlying66 _ hb l.held.length (mapD l.held) (by rfl) (by exact HM.out) ?_; intro w0 hrg0 hg0 hs0)
      go_frame
      rw [← hr] at hrg0 hs0 ⊢
      have HD1 := Lib.hid (HD.out.grown0 hg0)
      have HG1 : Hid (w.heap.size < r) := Lib.hid (by have := HD.out.ex; obtain ⟨m, hm, -⟩ := this; have := hm.lt; omega)
      have HRG := Lib.hid hrg0
      have hrw : r < w0.heap.size := by omega
      clear hg0 hrg0 HM HD hb2 cg hr
      go_loopw [6] (fun _ wt => ∃ (left : Lit → Bool) (cnt : Nat), wt.ranges Try.prog 3 (plainElem (H := Unit) Try.prog 3) hb r l.held.length (mapD l.held) left cnt ∧ cnt ≤ l.held.length ∧ r < wt.heap.size ∧
        Hd w w.heap.size (fun k => (∃ j l, j < i ∧ t.ls[j]? = some l ∧ Lk.khas l.held k = true) ∨ (Lk.khas l.held k = true ∧ left (.int .i64 k) = false)) (16 * i + (l.held.length - cnt)) wt)
        (fun _ wt => wt.rangeLeft hb r)
      case atStart =>
        refine ⟨_, _, HRG.out, by rw [size_mapD]; exact Nat.le_refl _, hrw, HD1.out.conv (fun k => ?_) (by omega)⟩
        rw [mapD_has]
        constructor
        · exact fun h => .inl h
        · rintro (h | ⟨h1, h2⟩)
          · exact h
          · rw [h1] at h2; cases h2
      case round =>
        obtain ⟨left, cnt, hrg, hcn, hrw, hD⟩ := hrel
        have HD := Lib.hid hD
        have hwr2 : w.heap.size < wr.heap.size := by have := HG1.out; omega
        clear hD HD1 HRG
        go_wp2_with (at_next; refine wpList_next_ranges_ii _ (by rfl) (.tmp 21) (by rfl) 3 3 .i64 .i64 K3 Try.underlying3 Try.underlying3 hb r l.held.length (mapD l.held) left cnt (by rfl) hrg ?_ ?_)
        · intro hc0 hl0
          go_wp2
          go_roundw
          case rel =>
            refine ⟨i + 1, by omega, by go_num, HD.out.conv (fun k => ?_) (by omega)⟩
            constructor
            · rintro (⟨j, l', hj, h1, h2⟩ | ⟨h1, -⟩)
              · exact ⟨j, l', by omega, h1, h2⟩
              · exact ⟨i, l, by omega, HL.out, h1⟩
            · rintro ⟨j, l', hj, h1, h2⟩
              by_cases hji : j = i
              · subst hji
                rw [HL.out] at h1
                cases h1
                exact .inr ⟨h2, hl0 _⟩
              · exact .inl ⟨j, l', by omega, h1, h2⟩
          case measure => simp [intOf]; omega
        · intro x c w1 cnt1 hwx hwc hlx hat hrg1 hlt1 hg1 hs1 hen
          have HD2 := Lib.hid (HD.out.grown hg1 (by have := HG1.out; omega) (by have := HG1.out; omega))
          obtain ⟨⟨m, hmB, hma, hmk, hml2⟩, hbel⟩ := HD2.out
          have HMB := Lib.hid hmB
          have hmb : m.length < maxLen := by omega
          clear hmB
          go_wp2_with (at_mapUpdate; refine wpList_putB _ (by rfl) (.tmp 26) (.tmp 27) (.const (.bool true)) (by rfl) w.heap.size m x (by rfl) HMB.out (by rfl) (by rfl) hwx hmb ?_; intro w2 hM2 hT2; go_frame)
          have hrg2 := hrg1.kept hT2.grown (by simp; omega) (by have := HG1.out; simp; omega)
          have hxh : Lk.khas l.held x = true := by
            cases hc : Lk.khas l.held x with
            | true => rfl
            | false => have := hat (.lit (.bool true)); rw [mapD_not hc] at this; cases this
          refine ⟨⟨_, cnt1, hrg2, by omega, by rw [turned_size hT2, hs1]; exact hrw, ⟨⟨Lk.kput x 1 m, hM2, hma.put _ _, fun k => ?_, ?_⟩, hbel.grown hT2.grown hbel.size (fun j hj => by cases hj; exact Nat.le_refl _)⟩⟩, ?_⟩
          · rw [Lk.khas_put]
            simp only [Bool.or_eq_true, decide_eq_true_eq, hmk k, same_int, Bool.and_eq_false_iff, Bool.not_eq_false']
            constructor
            · rintro (rfl | h | ⟨h1, h2⟩)
              · exact .inr ⟨hxh, .inr rfl⟩
              · exact .inl h
              · exact .inr ⟨h1, .inl h2⟩
            · rintro (h | ⟨h1, h2 | h2⟩)
              · exact .inr (.inl h)
              · exact .inr (.inr ⟨h1, h2⟩)
              · exact .inl h2
          · have := Lk.length_put_le x 1 m
            omega
          · rw [hrg2.left_eq, hrg.left_eq]; omega
    · obtain rfl : i = t.ls.length := by omega
      have HBel := Lib.hid hD.bel
      obtain ⟨⟨m, hmB, hma, hmk, hml2⟩, -⟩ := hD
      have KY := Lib.hid (keysB_any (some w.heap.size) wr)
      have SR := Lib.hid (sortedB_any w.heap.size m wr hmB hma (by omega))
      have hkeys : m.map (·.1) = Lk.holders t := Lk.keys_ext hma (Lk.heldSet_asc t) fun k => by
        have h1 := hmk k
        have h2 := Lk.heldSet_has t k
        rw [← h2] at h1
        exact Bool.eq_iff_iff.2 h1
      rw [hkeys] at SR
      unfold lineNew at SR
      clear hmB hma hmk hml2 hkeys
      go_wp2_with fail
      refine KY.out.mono ?_
      rintro e w4 ⟨rfl, rfl⟩
      go_wp2_with fail
      refine SR.out.mono ?_
      rintro e w5 ⟨v', rfl, hLn, hN, hb5⟩
      obtain ⟨p5, c5, e5, -⟩ := hLn.form
      obtain ⟨n5, hn5⟩ : ∃ n5, n5 = (Lk.holders t).length := ⟨_, rfl⟩
      rw [← hn5] at e5
      subst e5
      have HLn := Lib.hid hLn; have HN := Lib.hid hN; have HB5 := Lib.hid hb5
      have hz := HBel.out.size
      clear hLn hN hb5 KY SR hn5
      go_wp2
      go_ret
      exact ⟨_, rfl, HLn.out, fun k e => by have := HN.out k e; simp at this; omega, HBel.out.trans (((one wr _).trans (HB5.out.mono (by simp))).mono hz)⟩
end Go.Proofs.Ytpkldcnkadfhgaa
