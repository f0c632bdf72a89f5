/- What Hold and Free do. -/
import Derived.Test.YtpkldcnkadfhgaaGive
import Derived.Shelf.SlMaps.Clone
namespace Go.Proofs.Ytpkldcnkadfhgaa
open Go.RowKit

namespace Lk
theorem LOk.take {l : L} (h : LOk l) {p : Int} (hp : isP p) (hw : l.wait = []) (hf : 0 < l.free) : LOk { l with free := l.free - 1, held := kput p (kget l.held p + 1) l.held } := by
  have hb := h.bal
  have hg := h.held_0 p
  refine ⟨h.t1, h.t16, by simp only; omega, ?_, h.asc.put _ _, ?_, h.nd, h.ps, fun _ => hw⟩
  · simp only; rw [sum_put h.asc]; omega
  · intro y hy
    rcases mem_put hy with rfl | hy
    · exact ⟨hp, by simp only; omega⟩
    · exact h.pos y hy
theorem TOk.take {t : T} (h : TOk t) {i : Nat} {l : L} (hl : t.ls[i]? = some l) {p : Int} (hp : isP p) (hw : l.wait = []) (hf : 0 < l.free) :
    TOk { t with ls := t.ls.set i { l with free := l.free - 1, held := kput p (kget l.held p + 1) l.held } } := by
  have hlo := h.ok l (List.mem_of_getElem? hl)
  refine ⟨by simpa using h.n16, ?_, h.asc, ?_, ?_⟩
  · intro x hx
    obtain ⟨j, hj⟩ := List.getElem?_of_mem hx
    rcases getElem?_set_cases hj with ⟨-, rfl, -⟩ | ⟨-, hj⟩
    · exact hlo.take hp hw hf
    · exact h.ok x (List.mem_of_getElem? hj)
  · intro j x q hj hq
    rcases getElem?_set_cases hj with ⟨rfl, rfl, -⟩ | ⟨-, hj⟩
    · exact h.w1 j l q hl hq
    · exact h.w1 j x q hj hq
  · intro q v hq
    obtain ⟨j, x, hv, hj, hqx⟩ := h.w2 q v hq
    by_cases hji : j = i
    · subst hji
      rw [hl] at hj; cases hj
      exact ⟨j, _, hv, List.getElem?_set_self (List.getElem?_eq_some_iff.1 hl).1, hqx⟩
    · exact ⟨j, x, hv, by simpa [List.getElem?_set, Ne.symm hji] using hj, hqx⟩
theorem TOk.notWait {t : T} (h : TOk t) {p : Int} (hn : khas t.waits p = false) {j : Nat} {x : L} (hj : t.ls[j]? = some x) : p ∉ x.wait := fun hm => by
  rw [khas_of_mem (h.w1 j x p hj hm)] at hn; cases hn
theorem TOk.join {t : T} (h : TOk t) {i : Nat} {l : L} (hl : t.ls[i]? = some l) {p : Int} (hp : isP p) (hn : khas t.waits p = false) (hnf : ¬ (l.wait = [] ∧ 0 < l.free)) :
    TOk { ls := t.ls.set i { l with wait := l.wait ++ [p] }, waits := kput p ((i : Int) + 1) t.waits } := by
  have hlo := h.ok l (List.mem_of_getElem? hl)
  have hi : i < t.ls.length := (List.getElem?_eq_some_iff.1 hl).1
  have hpl := h.notWait hn hl
  have hput : ∀ {y : Int × Int}, y ∈ t.waits → y ∈ kput p ((i : Int) + 1) t.waits := fun {y} hy => by
    refine mem_ins.2 (.inr (List.mem_filter.2 ⟨hy, ?_⟩))
    have : y.1 ≠ p := fun e => by rw [khas_of_mem (k := p) (v := y.2) (by rw [← e]; exact hy)] at hn; cases hn
    simpa using this
  refine ⟨by simpa using h.n16, ?_, h.asc.put _ _, ?_, ?_⟩
  · intro x hx
    obtain ⟨j, hj⟩ := List.getElem?_of_mem hx
    rcases getElem?_set_cases hj with ⟨-, rfl, -⟩ | ⟨-, hj⟩
    · refine ⟨hlo.t1, hlo.t16, hlo.f0, hlo.bal, hlo.asc, hlo.pos, ?_, ?_, fun hf => ?_⟩
      · refine List.nodup_append.2 ⟨hlo.nd, by simp, fun a ha b hb => ?_⟩
        simp at hb; subst hb; exact fun e => hpl (e ▸ ha)
      · intro q hq
        rcases List.mem_append.1 hq with hq | hq
        · exact hlo.ps q hq
        · simp at hq; subst hq; exact hp
      · exact absurd ⟨hlo.wake hf, hf⟩ hnf
    · exact h.ok x (List.mem_of_getElem? hj)
  · intro j x q hj hq
    rcases getElem?_set_cases hj with ⟨rfl, rfl, -⟩ | ⟨-, hj⟩
    · rcases List.mem_append.1 hq with hq | hq
      · exact hput (h.w1 j l q hl hq)
      · simp at hq; subst hq; exact mem_ins.2 (.inl rfl)
    · exact hput (h.w1 j x q hj hq)
  · intro q v hq
    rcases mem_put hq with e | hq
    · cases e
      exact ⟨i, _, rfl, List.getElem?_set_self hi, by simp⟩
    · obtain ⟨j, x, hv, hj, hqx⟩ := h.w2 q v hq
      by_cases hji : j = i
      · subst hji
        rw [hl] at hj; cases hj
        exact ⟨j, _, hv, List.getElem?_set_self hi, by simp [hqx]⟩
      · exact ⟨j, x, hv, by simpa [List.getElem?_set, Ne.symm hji] using hj, hqx⟩
end Lk

/-- What Hold says. -/
def holdPost (w : World) (bl : Blocks) (tb : Nat) (t : Lk.T) (k p : Int) (e : Ending) (w' : World) : Prop :=
  if chk t.ls.length k p ≠ 0 then e = .returned (.tuple #[.bool false, .int .i64 (chk t.ls.length k p)]) ∧ Below w.heap.size w w'
  else if Lk.khas t.waits p = true then e = .returned (.tuple #[.bool false, .int .i64 21]) ∧ Below w.heap.size w w'
  else ∃ (i : Nat) (l : Lk.L), k = (i : Int) + 1 ∧ t.ls[i]? = some l ∧ Lk.isP p ∧ e = .returned (.tuple #[.bool (Lk.hold t i l p).2, .int .i64 0]) ∧ Gone w bl tb (Lk.hold t i l p).1 w'

theorem chk_cases (n : Nat) (k p : Int) : (chk n k p = 2 ∨ chk n k p = 6) ∨ (chk n k p = 0 ∧ Lk.isP p ∧ 1 ≤ k ∧ k ≤ n) := by
  unfold chk Lk.isP
  split
  · exact .inl (.inl rfl)
  · split
    · exact .inr ⟨rfl, by omega, by omega⟩
    · exact .inl (.inr rfl)

theorem Rep.ne {W : World} {bl : Blocks} {tb : Nat} {lv : Value} {wv : Nat → Value} {ls : List Nat} {t : Lk.T} (h : Rep W bl tb lv wv ls t) {r r' : Nat × Nat} {a b : Nat} (ha : bl r = some a) (hb : bl r' = some b) (hr : r ≠ r') : a ≠ b :=
  fun e => hr (h.inj _ _ _ ha (e ▸ hb))
theorem Rep.nev {W : World} {bl : Blocks} {tb : Nat} {lv : Value} {wv : Nat → Value} {ls : List Nat} {t : Lk.T} (h : Rep W bl tb lv wv ls t) {r r' : Nat × Nat} {v : Value} {b : Nat} (ha : v.ownBlock = bl r) (hb : bl r' = some b) (hr : r ≠ r') : v.ownBlock ≠ some b :=
  fun e => hr (h.inj _ _ _ (ha ▸ e) hb)

theorem join_end {w W3 w4 w5 : World} {bl bl3 : Blocks} {tb : Nat} {lv : Value} {wv : Nat → Value} {ls : List Nat} {t : Lk.T} {i : Nat} {l : Lk.L} {lb hb m : Nat} {p : Int} {v5 : Value} {o : Obj} {k : Lk.KV}
    (hR3 : Rep W3 bl3 tb lv wv ls t) (hl : t.ls[i]? = some l) (e3 : bl3 (3, i) = some lb) (e4 : bl3 (4, i) = some hb) (e5 : (wv i).ownBlock = bl3 (5, i)) (hm3 : bl3 (2, 0) = some m) (hK3 : Lock W3 lb hb (wv i) l)
    (hT4 : W3.mapTurned w4 m) (hM4 : MapIs w4 m k) (hL5 : Line w5 v5 (l.wait ++ [p])) (hG5 : (w4.alloc o).grownBy w5 (wv i).ownBlock) (hA5 : v5.ownBlock = (wv i).ownBlock ∨ v5.ownBlock = some (w4.alloc o).heap.size)
    (hF3 : Fr (Fp bl) w W3) (hk : ∀ r x, bl3 r = some x → bl r = some x ∨ w.heap.size ≤ x) (hok : Lk.TOk { ls := t.ls.set i { l with wait := l.wait ++ [p] }, waits := k }) :
    Gone w bl tb { ls := t.ls.set i { l with wait := l.wait ++ [p] }, waits := k } (w5.setCell ⟨lb, 3, none⟩ v5) := by
  have hR4 := hR3.turnWaits hm3 hT4 hM4
  have hK4 : Lock w4 lb hb (wv i) l := ⟨hK3.blk.turned hT4 (hR3.ne e3 hm3 (by simp)), hK3.map.turned hT4 (hR3.ne e4 hm3 (by simp)), hK3.line.turned hT4 (hR3.nev e5 hm3 (by simp))⟩
  have hsz4 := turned_size hT4
  have hlb : lb < w4.heap.size := hK4.blk.lt
  have hB5 := (hK4.blk.alloc o).grown hG5 (fun e => hR4.nev e5 e3 (by simp) e.symm)
  have hM5 : MapIs w5 hb l.held := (hK4.map.alloc o).of_eq (hG5.block hb (hK4.map.alloc o).lt (fun e => hR4.nev e5 e4 (by simp) e.symm))
  have hv5 : v5.ownBlock ≠ some lb := by
    rcases hA5 with h | h
    · rw [h]; exact hR4.nev e5 e3 (by simp)
    · rw [h]; simp; omega
  have hF46 : Fr (Lo bl3 i) w4 (w5.setCell ⟨lb, 3, none⟩ v5) := Fr.set (Fr.grown ((Fr.refl _ _).alloc o) hG5 fun x e => .inl (.inr (.inr (e5 ▸ e)))) (.inl (.inl e3)) 3 v5
  have hKey : v5.ownBlock = bl3 (5, i) ∨ ∃ g, v5.ownBlock = some g ∧ w4.heap.size ≤ g := by
    rcases hA5 with h | h
    · exact .inl (h.trans e5)
    · exact .inr ⟨_, h, by simp⟩
  refine ⟨_, ⟨⟨_, _, _, hR4.turn (v := v5) (l' := { l with wait := l.wait ++ [p] }) hl e3 e4 hF46 hKey ⟨(hB5.set (by omega : 3 < 4) v5).ext fun o ho => ?_, hM5.set_other (hR4.ne e4 e3 (by simp)) v5, hL5.set_other hv5 v5⟩⟩, hok⟩, fun r x e => ?_, ?_⟩
  · have : o = 0 ∨ o = 1 ∨ o = 2 ∨ o = 3 := by omega
    rcases this with rfl | rfl | rfl | rfl <;> simp [upd, lG]
  · have h0 := hF3.size
    rcases put5_keep (n := w.heap.size) (hKey.imp id fun ⟨g, h1, h2⟩ => ⟨g, h1, by omega⟩) r x e with h | h
    · exact hk r x h
    · exact .inr h
  · exact Fr.set (Fr.grown ((hF3.map ((hk _ _ hm3).imp (fun h => ⟨_, h⟩) id) hT4).alloc o) hG5 fun x e => hk (5, i) x (e5 ▸ e) |>.imp (fun h => ⟨_, h⟩) id) ((hk _ _ e3).imp (fun h => ⟨_, h⟩) id) 3 v5

set_option maxRecDepth 100000 in
set_option maxHeartbeats 2000000 in
theorem hold_any (bl : Blocks) (tb : Nat) (t : Lk.T) (k p : Int) (w : World) (h : Tab w bl tb t) (hpw : (Lit.int .i64 p).wf = true) :
    Calls Try.prog 15 #[.pointer (some ⟨tb, 0, none⟩), .int .i64 k, .int .i64 p] w (holdPost w bl tb t k p) := by
  have HC := Lib.hid (check_any bl tb t k p w h)
  unfold still at HC
  unfold holdPost
  rcases chk_cases t.ls.length k p with hc | ⟨hc, hp, hk1, hk2⟩
  · have hne : chk t.ls.length k p ≠ 0 := by omega
    simp only [if_pos hne]
    clear h
    generalize chk t.ls.length k p = c at *
    have hne2 : (c != 0) = true := by simpa using hne
    clear hc
    go_enter Try.func15, Try.ntmps15
    go_wp2_with fail
    refine HC.out.mono ?_
    rintro e w1 ⟨rfl, hb⟩
    have HB := Lib.hid hb
    clear hb
    go_wp2
    go_ret2
    exact ⟨rfl, HB.out⟩
  · have hne : ¬ (chk t.ls.length k p ≠ 0) := by omega
    simp only [if_neg hne]
    rw [hc] at HC
    have HT := Lib.hid h
    have HW : Hid (∀ W, Below w.heap.size w W → Calls Try.prog 39 #[.pointer (some ⟨tb, 0, none⟩), .int .i64 p] W (still W (.bool (Lk.khas t.waits p)))) := Lib.hid fun W hW => isWaiting_any bl tb t p W (h.below hW) hpw
    unfold still at HW
    clear h hc
    cases hwt : Lk.khas t.waits p with
    | true =>
      rw [hwt] at HW
      simp only [if_true]
      go_enter Try.func15, Try.ntmps15
      go_wp2_with fail
      refine HC.out.mono ?_
      rintro e w1 ⟨rfl, hb⟩
      have HB := Lib.hid hb
      clear hb
      go_wp2_with fail
      refine (HW.out _ HB.out).mono ?_
      rintro e w2 ⟨rfl, hb⟩
      have HB2 := Lib.hid (HB.out.trans (hb.mono HB.out.size))
      clear hb
      go_wp2
      go_ret2
      exact ⟨rfl, HB2.out⟩
    | false =>
      rw [hwt] at HW
      simp only [Bool.false_eq_true, if_false]
      obtain ⟨i, rfl⟩ : ∃ i : Nat, k = (i : Int) + 1 := ⟨(k - 1).toNat, by omega⟩
      have hi : i < t.ls.length := by omega
      obtain ⟨l, hl⟩ : ∃ l, t.ls[i]? = some l := ⟨_, List.getElem?_eq_getElem hi⟩
      have hi16 : i < 16 := by have := HT.out.ok.n16; omega
      have ei1 : IntKind.i64.wrap ((i : Int) + 1 - 1) = (i : Int) := by rw [IntWalk.i64_in _ (by omega)]; omega
      have ei2 : ((i : Int)).toNat = i := by omega
      have ei3 : IntKind.i64.wrap (i : Int) = (i : Int) := IntWalk.i64_in _ (by omega)
      have ei4 : (i : Int) + 1 - 1 = (i : Int) := by omega
      have ei0 : (0 : Int) ≤ (i : Int) := by omega
      have hsz : w.heap.size ≤ w.heap.size := Nat.le_refl _
      by_cases hfr : l.wait = [] ∧ 0 < l.free
      · have RES : Hid (∀ w', Gone w bl tb { t with ls := t.ls.set i { l with free := l.free - 1, held := Lk.kput p (Lk.kget l.held p + 1) l.held } } w' → ∃ (i_1 : Nat) (l : Lk.L), (i : Int) + 1 = (i_1 : Int) + 1 ∧ t.ls[i_1]? = some l ∧ Lk.isP p ∧ Ending.returned (.tuple #[.bool true, .int .i64 0]) = .returned (.tuple #[.bool (Lk.hold t i_1 l p).2, .int .i64 0]) ∧ Gone w bl tb (Lk.hold t i_1 l p).1 w') := Lib.hid fun w' hG => by
          refine ⟨i, l, rfl, hl, hp, ?_, ?_⟩
          · unfold Lk.hold; rw [if_pos hfr]
          · unfold Lk.hold; rw [if_pos hfr]; exact hG
        go_enter Try.func15, Try.ntmps15
        go_wp2_with fail
        refine HC.out.mono ?_
        rintro e w1 ⟨rfl, hb⟩
        have HB := Lib.hid hb
        clear hb
        go_wp2_with fail
        refine (HW.out _ HB.out).mono ?_
        rintro e w2 ⟨rfl, hb⟩
        have HB2 := Lib.hid (HB.out.trans (hb.mono HB.out.size))
        clear hb HC HW
        obtain ⟨⟨lv, wv, ls, hR0⟩, hok⟩ := HT.out
        have hR := hR0.below HB2.out
        obtain ⟨q, cap, rfl, hcap, hcm, hq⟩ := hR.form
        obtain ⟨g, rfl, hg, hgc⟩ := hq (by have := hR.len; omega)
        obtain ⟨lb, hb, e3, els, e4, e5, hK⟩ := hR.lock i l hl
        have hlen := hR.len
        have c0 : w2.cell? ⟨tb, 0, none⟩ = some (.slice (some ⟨g, 0, none⟩) ls.length cap) := hR.blk.cell 0 (by omega)
        have cg := hgc i lb els
        have k1 : w2.cell? ⟨lb, 1, none⟩ = some (.int .i64 l.free) := hK.blk.cell 1 (by omega)
        have k2 : w2.cell? ⟨lb, 2, none⟩ = some (.map (some hb)) := hK.blk.cell 2 (by omega)
        have k3 : w2.cell? ⟨lb, 3, none⟩ = some (wv i) := hK.blk.cell 3 (by omega)
        have z1 := hK.blk.fz 1
        have htb := hR.lt _ _ hR.hT
        have hlb := hK.blk.lt
        have hlo := hok.ok l (List.mem_of_getElem? hl)
        have f16 := hlo.free_le
        have h0 := hlo.held_0 p
        have h16 := hlo.held_le p
        have hln := hlo.held_len
        have hml := maxLen_big
        have hfr1 := hfr.1
        have hfr2 := hfr.2
        obtain ⟨pv, cv, hv, -⟩ := hK.line.form
        have ev : wv i = .slice pv 0 cv := by rw [hv, hfr1]; rfl
        rw [ev] at k3
        have hn : lb ≠ hb := fun e => by have := hR.inj _ _ _ e3 (e ▸ e4); simp at this
        have HM := Lib.hid (hK.map.set_other (b' := lb) (o := 1) (fun e => hn e.symm) (.int .i64 (l.free - 1)))
        have hwc : (Lit.int .i64 (Lk.kget l.held p + 1)).wf = true := wf64 (by omega) (by omega)
        have ew : IntKind.i64.wrap (Lk.kget l.held p + 1) = Lk.kget l.held p + 1 := IntWalk.i64_in _ (by omega)
        have ew2 : IntKind.i64.wrap (l.free - 1) = l.free - 1 := IntWalk.i64_in _ (by omega)
        have hlt2 : (i : Int) < (ls.length : Int) := by omega
        have HOK := Lib.hid hok
        have HR := Lib.hid hR
        have HK := Lib.hid hK
        have HFR := Lib.hid hfr
        have nl : (wv i).ownBlock ≠ some lb := fun e => by have := hR.inj _ _ _ e3 (e5 ▸ e); simp at this
        have nh : (wv i).ownBlock ≠ some hb := fun e => by have := hR.inj _ _ _ e4 (e5 ▸ e); simp at this
        have HNL := Lib.hid nl; have HNH := Lib.hid nh
        clear hR0 hR hK hgc hq hv ev hfr1 hfr hcap hok nl nh
        go_wp2_with (first
          | (at_lookup; refine wpList_get _ rfl _ _ rfl hb _ p rfl HM.out rfl hpw ?_)
          | (at_mapUpdate; refine wpList_put _ rfl _ _ _ rfl hb _ p (Lk.kget l.held p + 1) rfl HM.out rfl rfl hpw hwc (by omega) ?_; intro w3 hM3 hT3))
        go_ret2
        refine RES.out _ ⟨_, ⟨⟨_, _, _, HR.out.turn hl e3 e4 (v := wv i) (l' := { l with free := l.free - 1, held := Lk.kput p (Lk.kget l.held p + 1) l.held }) ?_ (.inl e5) ?_⟩, ?_⟩, ?_, ?_⟩
        · exact Fr.map (Fr.set (Fr.refl _ _) (.inl (.inl e3)) 1 _) (.inl (.inr (.inl e4))) hT3
        · refine ⟨((HK.out.blk.set (by omega : 1 < 4) _).turned hT3 hn).ext fun o ho => ?_, hM3, (HK.out.line.set_other HNL.out _).turned hT3 HNH.out⟩
          have : o = 0 ∨ o = 1 ∨ o = 2 ∨ o = 3 := by omega
          rcases this with rfl | rfl | rfl | rfl <;> simp [upd, lG]
        · exact HOK.out.take hl hp HFR.out.1 HFR.out.2
        · exact put5_keep (.inl e5)
        · exact Fr.map (Fr.set (Fr.of_below HB2.out) (.inl ⟨_, e3⟩) 1 _) (.inl ⟨_, e4⟩) hT3
      · have RES : Hid (∀ w', Gone w bl tb { ls := t.ls.set i { l with wait := l.wait ++ [p] }, waits := Lk.kput p ((i : Int) + 1) t.waits } w' → ∃ (i_1 : Nat) (l : Lk.L), (i : Int) + 1 = (i_1 : Int) + 1 ∧ t.ls[i_1]? = some l ∧ Lk.isP p ∧ Ending.returned (.tuple #[.bool false, .int .i64 0]) = .returned (.tuple #[.bool (Lk.hold t i_1 l p).2, .int .i64 0]) ∧ Gone w bl tb (Lk.hold t i_1 l p).1 w') := Lib.hid fun w' hG => by
          refine ⟨i, l, rfl, hl, hp, ?_, ?_⟩
          · unfold Lk.hold; rw [if_neg hfr]
          · unfold Lk.hold; rw [if_neg hfr]; exact hG
        have HJ := Lib.hid (HT.out.ok.join hl hp hwt hfr)
        go_enter Try.func15, Try.ntmps15
        go_wp2_with fail
        refine HC.out.mono ?_
        rintro e w1 ⟨rfl, hb⟩
        have HB := Lib.hid hb
        clear hb
        go_wp2_with fail
        refine (HW.out _ HB.out).mono ?_
        rintro e w2 ⟨rfl, hb⟩
        have HB2 := Lib.hid (HB.out.trans (hb.mono HB.out.size))
        clear hb HC HW
        obtain ⟨⟨lv, wv, ls, hR0⟩, hok⟩ := HT.out
        have hR := hR0.below HB2.out
        obtain ⟨q, cap, rfl, hcap, hcm, hq⟩ := hR.form
        obtain ⟨g, rfl, hg, hgc⟩ := hq (by have := hR.len; omega)
        obtain ⟨lb, hb, e3, els, e4, e5, hK⟩ := hR.lock i l hl
        have hlen := hR.len
        have c0 : w2.cell? ⟨tb, 0, none⟩ = some (.slice (some ⟨g, 0, none⟩) ls.length cap) := hR.blk.cell 0 (by omega)
        have c1 : w2.cell? ⟨tb, 1, none⟩ = some (.map (bl (2, 0))) := hR.blk.cell 1 (by omega)
        have y1 := hR.blk.fz 1
        have cg := hgc i lb els
        have k1 : w2.cell? ⟨lb, 1, none⟩ = some (.int .i64 l.free) := hK.blk.cell 1 (by omega)
        have k3 : w2.cell? ⟨lb, 3, none⟩ = some (wv i) := hK.blk.cell 3 (by omega)
        have htb := hR.lt _ _ hR.hT
        have hlb := hK.blk.lt
        have hlo := hok.ok l (List.mem_of_getElem? hl)
        have hwl := hlo.wait_len
        have hml := maxLen_big
        have hwsl := hok.waits_len
        obtain ⟨pv, cv, hv0, -⟩ := hK.line.form
        obtain ⟨nw, hnw⟩ : ∃ nw, nw = l.wait.length := ⟨_, rfl⟩
        have hv : wv i = .slice pv nw cv := by rw [hnw]; exact hv0
        have HNW := Lib.hid hnw
        have hnwl : nw ≤ 1000000 := by omega
        have hntb : lb ≠ tb := fun e => by have := hR.inj _ _ _ e3 (e ▸ hR.hT); simp at this
        have hn : lb ≠ hb := fun e => by have := hR.inj _ _ _ e3 (e ▸ e4); simp at this
        have hwc : (Lit.int .i64 ((i : Int) + 1)).wf = true := wf64 (by omega) (by omega)
        have hlt2 : (i : Int) < (ls.length : Int) := by omega
        have HR := Lib.hid hR
        have HK := Lib.hid hK
        have HFR : Hid (¬ (l.wait = [] ∧ 0 < l.free)) := Lib.hid hfr
        have nl : (wv i).ownBlock ≠ some lb := fun e => by have := hR.inj _ _ _ e3 (e5 ▸ e); simp at this
        have HNL := Lib.hid nl
        have hq := fun w => run_eql_map_nil_sl (P := Try.prog) w 66 _ _ (bl (2, 0)) Try.underlying66
        have hcond : (nw = 0 ∧ ¬ (0 < l.free)) ∨ nw ≠ 0 := by
          by_cases h1 : l.wait = []
          · left; refine ⟨by rw [hnw, h1]; rfl, fun h2 => hfr ⟨h1, h2⟩⟩
          · right; intro h2; exact h1 (List.eq_nil_of_length_eq_zero (by omega))
        rw [hv] at k3
        have HV := Lib.hid hv
        have hmm := @run_makeMap Try.prog
        clear hR0 hR hK hgc hv hv0 hnw hfr hcap hok nl hwl
        rcases hcond with ⟨hl0, hf0⟩ | hl0
        · obtain rfl : nw = 0 := hl0
          have hf9 : l.free = 0 := by have := hlo.f0; omega
          rw [hf9] at k1
          clear hf0
          cases hm : bl (2, 0) with
          | none =>
            have hm3 : put5 bl (2, 0) (some w2.heap.size) (2, 0) = some w2.heap.size := put5_same _ _ _
            have HR3 := Lib.hid (HR.out.mkWaits' hm)
            have e3' : put5 bl (2, 0) (some w2.heap.size) (3, i) = some lb := by rw [put5_other _ _ (by simp)]; exact e3
            have e4' : put5 bl (2, 0) (some w2.heap.size) (4, i) = some hb := by rw [put5_other _ _ (by simp)]; exact e4
            have e5' : (wv i).ownBlock = put5 bl (2, 0) (some w2.heap.size) (5, i) := by rw [put5_other _ _ (by simp)]; exact e5
            have HF3 : Hid (Fr (Fp bl) w ((w2.setCell ⟨tb, 1, none⟩ (.map (some w2.heap.size))).alloc (.map #[] 0))) := Lib.hid (Fr.alloc (Fr.set (Fr.of_below HB2.out) (.inl ⟨_, HR.out.hT⟩) 1 _) _)
            have HK3 : Hid (Lock ((w2.setCell ⟨tb, 1, none⟩ (.map (some w2.heap.size))).alloc (.map #[] 0)) lb hb (wv i) l) := Lib.hid (HK.out.fr (Fr.alloc (Fr.set (S := fun x => x = tb) (Fr.refl _ _) (.inl rfl) 1 _) _) (HR.out.ne e3 HR.out.hT (by simp)) (HR.out.ne e4 HR.out.hT (by simp)) (fun k e e' => HR.out.nev e5 HR.out.hT (by simp) (e' ▸ e)))
            have HKP : Hid (∀ r x, put5 bl (2, 0) (some w2.heap.size) r = some x → bl r = some x ∨ w.heap.size ≤ x) := Lib.hid (put5_keep (.inr ⟨_, rfl, HB2.out.size⟩))
            rw [hm] at c1
            rw [hm] at hq
            go_wp2_with (first
              | (at_mapUpdate; refine wpList_put _ rfl _ _ _ rfl w2.heap.size _ p ((i : Int) + 1) rfl (HR3.out.waits _ hm3) rfl rfl hpw hwc (by omega) ?_; intro w4 hM4 hT4; have hB4 := HK3.out.blk.turned hT4 (HR3.out.ne e3' hm3 (by simp)); have c43 : w4.cell? ⟨lb, 3, none⟩ = some (.slice pv 0 cv) := (by rw [hB4.cell 3 (by omega)]; exact congrArg some HV.out); have hlb4 : lb < w4.heap.size := hB4.lt; have HB4 := Lib.hid hB4; have HM4 := Lib.hid hM4; have HT4 := Lib.hid hT4; have HL4 : Hid (Line w4 (.slice pv 0 cv) l.wait) := Lib.hid (HV.out ▸ HK3.out.line.turned hT4 (HR3.out.nev e5' hm3 (by simp))); clear hM4 hT4 hB4)
              | (at_builtin; refine wpList_line (w4.alloc (.cells #[.int .i64 p] 3)) (by rfl) (.tmp 74) (.tmp 76) (by rfl) (.slice pv 0 cv) l.wait (by rfl) (HL4.out.alloc (.cells #[.int .i64 p] 3)) ⟨w4.heap.size, 0, none⟩ 1 p (by rfl) (by exact World.cell?_alloc_at _ _ _ _ rfl) (by have := HNW.out; omega) ?_; intro v5 w5 hL5 hG5 hA5; obtain ⟨p5, cp5, e5v, -⟩ := hL5.form; obtain ⟨n5, hn5⟩ : ∃ n, n = (l.wait ++ [p]).length := ⟨_, rfl⟩; rw [← hn5] at e5v; subst e5v; clear hn5; have hB5 := (HB4.out.alloc (.cells #[.int .i64 p] 3)).grown hG5 (fun e => by rw [← HV.out] at e; exact HNL.out e.symm); have c53 : w5.cell? ⟨lb, 3, none⟩ = some (.slice pv 0 cv) := (by rw [hB5.cell 3 (by omega)]; exact congrArg some HV.out); have z53 := hB5.fz 3; have hlb5 : lb < w5.heap.size := hB5.lt; have HL5 := Lib.hid hL5; have HG5 := Lib.hid hG5; have HA5 := Lib.hid hA5; clear hL5 hG5 hA5 hB5))
            go_ret2
            exact RES.out _ (join_end HR3.out hl e3' e4' e5' hm3 HK3.out HT4.out HM4.out HL5.out (by rw [HV.out]; exact HG5.out) (by rw [HV.out]; exact HA5.out) HF3.out HKP.out HJ.out)
          | some m =>
            have hm3 := hm
            have HR3 := HR
            have HK3 := HK
            have e3' := e3; have e4' := e4; have e5' := e5
            have HF3 : Hid (Fr (Fp bl) w w2) := Lib.hid (Fr.of_below HB2.out)
            have HKP : Hid (∀ r x, bl r = some x → bl r = some x ∨ w.heap.size ≤ x) := Lib.hid fun r x e => .inl e
            rw [hm] at c1
            rw [hm] at hq
            go_wp2_with (first
              | (at_mapUpdate; refine wpList_put _ rfl _ _ _ rfl m _ p ((i : Int) + 1) rfl (HR3.out.waits _ hm3) rfl rfl hpw hwc (by omega) ?_; intro w4 hM4 hT4; have hB4 := HK3.out.blk.turned hT4 (HR3.out.ne e3' hm3 (by simp)); have c43 : w4.cell? ⟨lb, 3, none⟩ = some (.slice pv 0 cv) := (by rw [hB4.cell 3 (by omega)]; exact congrArg some HV.out); have hlb4 : lb < w4.heap.size := hB4.lt; have HB4 := Lib.hid hB4; have HM4 := Lib.hid hM4; have HT4 := Lib.hid hT4; have HL4 : Hid (Line w4 (.slice pv 0 cv) l.wait) := Lib.hid (HV.out ▸ HK3.out.line.turned hT4 (HR3.out.nev e5' hm3 (by simp))); clear hM4 hT4 hB4)
              | (at_builtin; refine wpList_line (w4.alloc (.cells #[.int .i64 p] 3)) (by rfl) (.tmp 74) (.tmp 76) (by rfl) (.slice pv 0 cv) l.wait (by rfl) (HL4.out.alloc (.cells #[.int .i64 p] 3)) ⟨w4.heap.size, 0, none⟩ 1 p (by rfl) (by exact World.cell?_alloc_at _ _ _ _ rfl) (by have := HNW.out; omega) ?_; intro v5 w5 hL5 hG5 hA5; obtain ⟨p5, cp5, e5v, -⟩ := hL5.form; obtain ⟨n5, hn5⟩ : ∃ n, n = (l.wait ++ [p]).length := ⟨_, rfl⟩; rw [← hn5] at e5v; subst e5v; clear hn5; have hB5 := (HB4.out.alloc (.cells #[.int .i64 p] 3)).grown hG5 (fun e => by rw [← HV.out] at e; exact HNL.out e.symm); have c53 : w5.cell? ⟨lb, 3, none⟩ = some (.slice pv 0 cv) := (by rw [hB5.cell 3 (by omega)]; exact congrArg some HV.out); have z53 := hB5.fz 3; have hlb5 : lb < w5.heap.size := hB5.lt; have HL5 := Lib.hid hL5; have HG5 := Lib.hid hG5; have HA5 := Lib.hid hA5; clear hL5 hG5 hA5 hB5))
            go_ret2
            exact RES.out _ (join_end HR3.out hl e3' e4' e5' hm3 HK3.out HT4.out HM4.out HL5.out (by rw [HV.out]; exact HG5.out) (by rw [HV.out]; exact HA5.out) HF3.out HKP.out HJ.out)
        · have hb0 : ((nw : Int) == 0) = false := by simp; omega
          cases hm : bl (2, 0) with
          | none =>
            have hm3 : put5 bl (2, 0) (some w2.heap.size) (2, 0) = some w2.heap.size := put5_same _ _ _
            have HR3 := Lib.hid (HR.out.mkWaits' hm)
            have e3' : put5 bl (2, 0) (some w2.heap.size) (3, i) = some lb := by rw [put5_other _ _ (by simp)]; exact e3
            have e4' : put5 bl (2, 0) (some w2.heap.size) (4, i) = some hb := by rw [put5_other _ _ (by simp)]; exact e4
            have e5' : (wv i).ownBlock = put5 bl (2, 0) (some w2.heap.size) (5, i) := by rw [put5_other _ _ (by simp)]; exact e5
            have HF3 : Hid (Fr (Fp bl) w ((w2.setCell ⟨tb, 1, none⟩ (.map (some w2.heap.size))).alloc (.map #[] 0))) := Lib.hid (Fr.alloc (Fr.set (Fr.of_below HB2.out) (.inl ⟨_, HR.out.hT⟩) 1 _) _)
            have HK3 : Hid (Lock ((w2.setCell ⟨tb, 1, none⟩ (.map (some w2.heap.size))).alloc (.map #[] 0)) lb hb (wv i) l) := Lib.hid (HK.out.fr (Fr.alloc (Fr.set (S := fun x => x = tb) (Fr.refl _ _) (.inl rfl) 1 _) _) (HR.out.ne e3 HR.out.hT (by simp)) (HR.out.ne e4 HR.out.hT (by simp)) (fun k e e' => HR.out.nev e5 HR.out.hT (by simp) (e' ▸ e)))
            have HKP : Hid (∀ r x, put5 bl (2, 0) (some w2.heap.size) r = some x → bl r = some x ∨ w.heap.size ≤ x) := Lib.hid (put5_keep (.inr ⟨_, rfl, HB2.out.size⟩))
            rw [hm] at c1
            rw [hm] at hq
            go_wp2_with (first
              | (at_mapUpdate; refine wpList_put _ rfl _ _ _ rfl w2.heap.size _ p ((i : Int) + 1) rfl (HR3.out.waits _ hm3) rfl rfl hpw hwc (by omega) ?_; intro w4 hM4 hT4; have hB4 := HK3.out.blk.turned hT4 (HR3.out.ne e3' hm3 (by simp)); have c43 : w4.cell? ⟨lb, 3, none⟩ = some (.slice pv nw cv) := (by rw [hB4.cell 3 (by omega)]; exact congrArg some HV.out); have hlb4 : lb < w4.heap.size := hB4.lt; have HB4 := Lib.hid hB4; have HM4 := Lib.hid hM4; have HT4 := Lib.hid hT4; have HL4 : Hid (Line w4 (.slice pv nw cv) l.wait) := Lib.hid (HV.out ▸ HK3.out.line.turned hT4 (HR3.out.nev e5' hm3 (by simp))); clear hM4 hT4 hB4)
              | (at_builtin; refine wpList_line (w4.alloc (.cells #[.int .i64 p] 3)) (by rfl) (.tmp 74) (.tmp 76) (by rfl) (.slice pv nw cv) l.wait (by rfl) (HL4.out.alloc (.cells #[.int .i64 p] 3)) ⟨w4.heap.size, 0, none⟩ 1 p (by rfl) (by exact World.cell?_alloc_at _ _ _ _ rfl) (by have := HNW.out; omega) ?_; intro v5 w5 hL5 hG5 hA5; obtain ⟨p5, cp5, e5v, -⟩ := hL5.form; obtain ⟨n5, hn5⟩ : ∃ n, n = (l.wait ++ [p]).length := ⟨_, rfl⟩; rw [← hn5] at e5v; subst e5v; clear hn5; have hB5 := (HB4.out.alloc (.cells #[.int .i64 p] 3)).grown hG5 (fun e => by rw [← HV.out] at e; exact HNL.out e.symm); have c53 : w5.cell? ⟨lb, 3, none⟩ = some (.slice pv nw cv) := (by rw [hB5.cell 3 (by omega)]; exact congrArg some HV.out); have z53 := hB5.fz 3; have hlb5 : lb < w5.heap.size := hB5.lt; have HL5 := Lib.hid hL5; have HG5 := Lib.hid hG5; have HA5 := Lib.hid hA5; clear hL5 hG5 hA5 hB5))
            go_ret2
            exact RES.out _ (join_end HR3.out hl e3' e4' e5' hm3 HK3.out HT4.out HM4.out HL5.out (by rw [HV.out]; exact HG5.out) (by rw [HV.out]; exact HA5.out) HF3.out HKP.out HJ.out)
          | some m =>
            have hm3 := hm
            have HR3 := HR
            have HK3 := HK
            have e3' := e3; have e4' := e4; have e5' := e5
            have HF3 : Hid (Fr (Fp bl) w w2) := Lib.hid (Fr.of_below HB2.out)
            have HKP : Hid (∀ r x, bl r = some x → bl r = some x ∨ w.heap.size ≤ x) := Lib.hid fun r x e => .inl e
            rw [hm] at c1
            rw [hm] at hq
            go_wp2_with (first
              | (at_mapUpdate; refine wpList_put _ rfl _ _ _ rfl m _ p ((i : Int) + 1) rfl (HR3.out.waits _ hm3) rfl rfl hpw hwc (by omega) ?_; intro w4 hM4 hT4; have hB4 := HK3.out.blk.turned hT4 (HR3.out.ne e3' hm3 (by simp)); have c43 : w4.cell? ⟨lb, 3, none⟩ = some (.slice pv nw cv) := (by rw [hB4.cell 3 (by omega)]; exact congrArg some HV.out); have hlb4 : lb < w4.heap.size := hB4.lt; have HB4 := Lib.hid hB4; have HM4 := Lib.hid hM4; have HT4 := Lib.hid hT4; have HL4 : Hid (Line w4 (.slice pv nw cv) l.wait) := Lib.hid (HV.out ▸ HK3.out.line.turned hT4 (HR3.out.nev e5' hm3 (by simp))); clear hM4 hT4 hB4)
              | (at_builtin; refine wpList_line (w4.alloc (.cells #[.int .i64 p] 3)) (by rfl) (.tmp 74) (.tmp 76) (by rfl) (.slice pv nw cv) l.wait (by rfl) (HL4.out.alloc (.cells #[.int .i64 p] 3)) ⟨w4.heap.size, 0, none⟩ 1 p (by rfl) (by exact World.cell?_alloc_at _ _ _ _ rfl) (by have := HNW.out; omega) ?_; intro v5 w5 hL5 hG5 hA5; obtain ⟨p5, cp5, e5v, -⟩ := hL5.form; obtain ⟨n5, hn5⟩ : ∃ n, n = (l.wait ++ [p]).length := ⟨_, rfl⟩; rw [← hn5] at e5v; subst e5v; clear hn5; have hB5 := (HB4.out.alloc (.cells #[.int .i64 p] 3)).grown hG5 (fun e => by rw [← HV.out] at e; exact HNL.out e.symm); have c53 : w5.cell? ⟨lb, 3, none⟩ = some (.slice pv nw cv) := (by rw [hB5.cell 3 (by omega)]; exact congrArg some HV.out); have z53 := hB5.fz 3; have hlb5 : lb < w5.heap.size := hB5.lt; have HL5 := Lib.hid hL5; have HG5 := Lib.hid hG5; have HA5 := Lib.hid hA5; clear hL5 hG5 hA5 hB5))
            go_ret2
            exact RES.out _ (join_end HR3.out hl e3' e4' e5' hm3 HK3.out HT4.out HM4.out HL5.out (by rw [HV.out]; exact HG5.out) (by rw [HV.out]; exact HA5.out) HF3.out HKP.out HJ.out)
end Go.Proofs.Ytpkldcnkadfhgaa
