/- What Stuck does. -/
import Derived.Test.YtpkldcnkadfhgaaFreeAll
namespace Go.Proofs.Ytpkldcnkadfhgaa
open Go.RowKit Go.Shelf

namespace Lk
def stuckStep (t : T) (p : Int) : T := if khas t.waits p then t else freeAll t p
def stuck (t : T) : List Int := ((holders t).foldl stuckStep t).waits.map (·.1)
theorem stuckStep_succ (t : T) {l : List Int} {i : Nat} {x : Int} (h : l[i]? = some x) : (l.take (i + 1)).foldl stuckStep t = stuckStep ((l.take i).foldl stuckStep t) x := by
  rw [List.take_add_one, h]
  simp
theorem holders_p {t : T} (h : TOk t) : ∀ p ∈ holders t, isP p := by
  intro p hp
  unfold holders at hp
  obtain ⟨q, hq, rfl⟩ := List.mem_map.1 hp
  obtain ⟨j, l, -, hl, hh⟩ := (heldSet_has t q.1).1 (khas_mem.2 ⟨q.2, hq⟩)
  obtain ⟨v, hv⟩ := khas_mem.1 hh
  exact ((h.ok l (List.mem_of_getElem? hl)).pos _ hv).1
theorem holders_len {t : T} (h : TOk t) : (holders t).length ≤ 1000000 := by
  refine nodup_bound ?_ (holders_p h)
  unfold holders
  rw [List.nodup_iff_pairwise_ne, List.pairwise_map]
  exact (heldSet_asc t).imp fun hlt e => by omega
end Lk

theorem sorted_nil (W : World) : Calls Try.prog 47 #[.func (.func 68) #[] #[.pointer (some ⟨W.heap.size, 0, none⟩)]] (W.alloc (.cells #[.map none] 66)) (lineNew (W.alloc (.cells #[.map none] 66)) []) := by
  have hseq : SeqGives Fence.wide 2 Try.prog 68 #[.pointer (some ⟨W.heap.size, 0, none⟩)] encZ (fun ss => ss = []) 0 (W.alloc (.cells #[.map none] 66)) :=
    AnyZI.keys_gives_nil (ρ := Try.keysA_ren) { Try.keysA with } Fence.wide _ trivial rfl W.heap.size _ (by simp) (by simp)
  have cS := AnyZI.sorted_in Try.sortedA Fence.wide 5 trivial trivial trivial trivial rfl (by omega) (sortsA _) (enters_of Try.func29 (by kernel_rfl) rfl) 68 #[.pointer (some ⟨W.heap.size, 0, none⟩)] trivial (enters_of Try.func68 (by kernel_rfl) rfl) _ _ (by unfold maxLen; omega) (by omega) _ hseq
  refine ((callsIn_wide (n := 5)).1 cS).mono ?_
  rintro e w' ⟨v, ss, rfl, hS, hrow, hnil, hbel⟩
  subst hS
  have hr := hrow
  simp at hr
  exact ⟨v, rfl, line_of_row (L := []) hr rfl, fun k hk => (hrow.lt k hk).1, hbel⟩
/-- The keys of the map of those that wait, be it nil. -/
theorem sortedW_any {W : World} {bl : Blocks} {tb : Nat} {t : Lk.T} (h : Tab W bl tb t) :
    Calls Try.prog 47 #[.func (.func 68) #[] #[.pointer (some ⟨W.heap.size, 0, none⟩)]] (W.alloc (.cells #[.map (bl (2, 0))] 66)) (lineNew (W.alloc (.cells #[.map (bl (2, 0))] 66)) (t.waits.map (·.1))) := by
  obtain ⟨⟨lv, wv, ls, hR⟩, hok⟩ := h
  cases hm : bl (2, 0) with
  | none =>
    rw [hR.waits0 hm]
    exact sorted_nil W
  | some b => exact sorted_any b t.waits W (hR.waits b hm) hok.asc (by have := hok.waits_len; omega)

/-- What Stuck's loop keeps. -/
structure Sk (w : World) (cb : Nat) (v : Value) (H : List Int) (t : Lk.T) (wt : World) : Prop where
  ex : ∃ bl, Om w bl cb t wt ∧ ∀ r k, bl r = some k → v.ownBlock ≠ some k
  line : Line wt v H
section
variable {w wt W : World} {cb : Nat} {v : Value} {H : List Int} {t t' : Lk.T}
theorem Sk.below (h : Sk w cb v H t wt) (hb : Below wt.heap.size wt W) : Sk w cb v H t W := by
  obtain ⟨⟨bl, h1, h2⟩, h3⟩ := h
  exact ⟨⟨bl, h1.below hb, h2⟩, h3.below hb⟩
theorem Sk.gone (h : Sk w cb v H t wt) (hG : ∀ bl, Om w bl cb t wt → Gone wt bl cb t' W) : Sk w cb v H t' W := by
  obtain ⟨⟨bl, h1, h2⟩, h3⟩ := h
  obtain ⟨bl', g1, g2, g3⟩ := h1.gone (hG bl h1)
  refine ⟨⟨bl', g1, fun r k e e' => ?_⟩, h3.fr g3 fun k e ⟨r, e'⟩ => h2 r k e' e⟩
  rcases g2 r k e with h | h
  · exact h2 r k h e'
  · have := h3.block k e'; omega
end
set_option maxRecDepth 100000 in
set_option maxHeartbeats 4000000 in
theorem stuck_any (bl : Blocks) (tb : Nat) (t : Lk.T) (w : World) (h : Tab w bl tb t) : Calls Try.prog 20 #[.pointer (some ⟨tb, 0, none⟩)] w (lineNew w (Lk.stuck t)) := by
  have CP := Lib.hid (copy_any bl tb t w h)
  unfold copyPost at CP
  have HP := Lib.hid (Lk.holders_p h.ok)
  have HOK := Lib.hid h.ok
  clear h
  unfold lineNew
  go_enter Try.func20, Try.ntmps20
  go_wp2_with fail
  refine CP.out.mono ?_
  rintro e w1 ⟨bc, cb, rfl, hT1, hbc, hb1⟩
  have HO := Lib.hid (holders_any bc cb t w1 hT1)
  unfold lineNew at HO
  have HT1 := Lib.hid hT1
  have HBC := Lib.hid hbc
  have HB1 := Lib.hid hb1
  clear hT1 hbc hb1 CP
  go_wp2_with fail
  refine HO.out.mono ?_
  rintro e w2 ⟨v, rfl, hLn, hN, hb2⟩
  have HSK : Hid (Sk w cb v (Lk.holders t) t w2) := Lib.hid ⟨⟨bc, ⟨HT1.out.below hb2, HBC.out, HB1.out.trans (hb2.mono HB1.out.size)⟩, fun r k e e' => by have := HT1.out.lt e; have := hN k e'; omega⟩, hLn⟩
  obtain ⟨pv, cv, rfl, -, -, hpv⟩ := hLn.form
  obtain ⟨n, hn⟩ : ∃ n, n = (Lk.holders t).length := ⟨_, rfl⟩
  have hn2 : n ≤ 1000000 := by
    have := Lk.holders_len HOK.out
    omega
  rw [← hn] at HSK ⊢
  have HN := Lib.hid hn
  clear hLn hN hb2 hn hpv
  go_wp2_with fail
  go_loopw [13] (fun vi wt => ∃ i : Nat, i ≤ n ∧ vi = .int .i64 i ∧ Sk w cb (.slice pv n cv) (Lk.holders t) (((Lk.holders t).take i).foldl Lk.stuckStep t) wt) (fun vi _ => n - (intOf vi).toNat)
  case atStart => exact ⟨0, Nat.zero_le _, rfl, HSK.out⟩
  case round =>
    obtain ⟨i, hi, rfl, hK⟩ := hrel
    by_cases hlt : i < n
    · obtain ⟨p, hp⟩ : ∃ p, (Lk.holders t)[i]? = some p := ⟨_, List.getElem?_eq_getElem (by have := HN.out; omega)⟩
      have HSU := Lib.hid (Lk.stuckStep_succ t hp)
      have hpP : Lk.isP p := HP.out p (List.mem_of_getElem? hp)
      have hpw := isP_wf hpP
      generalize ((Lk.holders t).take i).foldl Lk.stuckStep t = t1 at *
      obtain ⟨pv', cv', e, -, -, hpv⟩ := hK.line.form
      rw [← HN.out] at e
      cases e
      obtain ⟨g, off, rfl, hg⟩ := hpv (by have := HN.out; omega)
      have cq := hK.line.cell hp
      have HK := Lib.hid hK
      obtain ⟨⟨bl1, hO1, -⟩, -⟩ := hK
      have IW := Lib.hid (isWaiting_any bl1 cb t1 p wr hO1.tab hpw)
      unfold still at IW
      have ii1 : (i : Int) < (n : Int) := by omega
      have ii0 : (0 : Int) ≤ (i : Int) := by omega
      clear hO1 hp
      go_wp2_with fail
      refine IW.out.mono ?_
      rintro e w3 ⟨rfl, hb3⟩
      have HK3 := Lib.hid (HK.out.below hb3)
      clear hb3 IW HK cq
      cases hw : Lk.khas t1.waits p with
      | true =>
        have hst : Lk.stuckStep t1 p = t1 := by unfold Lk.stuckStep; rw [hw]; rfl
        have HK4 : Hid (Sk w cb (.slice (some ⟨g, off, none⟩) n cv) (Lk.holders t) (((Lk.holders t).take (i + 1)).foldl Lk.stuckStep t) w3) := Lib.hid (by rw [HSU.out, hst]; exact HK3.out)
        clear hst HK3
        go_wp2
        go_roundw
        case rel => exact ⟨i + 1, by omega, by go_num, HK4.out⟩
        case measure => simp [intOf]; omega
      | false =>
        have hst : Lk.stuckStep t1 p = Lk.freeAll t1 p := by unfold Lk.stuckStep; rw [hw]; rfl
        have HSU2 : Hid (((Lk.holders t).take (i + 1)).foldl Lk.stuckStep t = Lk.freeAll t1 p) := Lib.hid (by rw [HSU.out, hst])
        have FA : Hid (Calls Try.prog 46 #[.pointer (some ⟨cb, 0, none⟩), .int .i64 p] w3 fun e w' => e = .returned (.tuple #[]) ∧ ∃ bl, (Om w bl cb t1 w3 ∧ ∀ r k, bl r = some k → (Value.slice (some ⟨g, off, none⟩) n cv).ownBlock ≠ some k) ∧ Gone w3 bl cb (Lk.freeAll t1 p) w') := Lib.hid (by
          obtain ⟨⟨bl1, hO1, h2⟩, -⟩ := HK3.out
          exact (freeAll_any bl1 cb t1 p w3 hO1.tab hpP).mono fun e w' ⟨h1, h3⟩ => ⟨h1, bl1, ⟨hO1, h2⟩, h3⟩)
        clear hst
        go_wp2_with fail
        refine FA.out.mono ?_
        rintro e w4 ⟨rfl, bl1, ⟨hO1, h2⟩, hG⟩
        have HK4 : Hid (Sk w cb (.slice (some ⟨g, off, none⟩) n cv) (Lk.holders t) (((Lk.holders t).take (i + 1)).foldl Lk.stuckStep t) w4) := Lib.hid (by
          rw [HSU2.out]
          obtain ⟨bl', g1, g2, g3⟩ := hO1.gone hG
          refine ⟨⟨bl', g1, fun r k e e' => ?_⟩, HK3.out.line.fr g3 fun k e ⟨r, e'⟩ => h2 r k e' e⟩
          rcases g2 r k e with h | h
          · exact h2 r k h e'
          · have := HK3.out.line.block k e'; omega)
        clear hO1 h2 hG HK3 FA
        go_wp2
        go_roundw
        case rel => exact ⟨i + 1, by omega, by go_num, HK4.out⟩
        case measure => simp [intOf]; omega
    · obtain rfl : i = n := by omega
      rw [HN.out, List.take_length] at hK
      obtain ⟨⟨bl1, hO1, -⟩, -⟩ := hK
      have KY := Lib.hid (keys_any (bl1 (2, 0)) wr)
      have SR := Lib.hid (sortedW_any hO1.tab)
      have c1 : wr.cell? ⟨cb, 1, none⟩ = some (.map (bl1 (2, 0))) := by
        obtain ⟨⟨lv, wv, ls, hR⟩, -⟩ := hO1.tab
        exact hR.blk.cell 1 (by omega)
      have hcb := hO1.tab.tlt
      have HBel := Lib.hid hO1.bel
      unfold lineNew at SR
      clear hO1
      have HST : Hid (((Lk.holders t).foldl Lk.stuckStep t).waits.map (·.1) = Lk.stuck t) := Lib.hid rfl
      rw [HST.out] at SR
      go_wp2_with fail
      refine KY.out.mono ?_
      rintro e w4 ⟨rfl, rfl⟩
      go_wp2_with fail
      refine SR.out.mono ?_
      rintro e w5 ⟨v', rfl, hLn, hN, hb5⟩
      obtain ⟨p5, c5, e5, -⟩ := hLn.form
      obtain ⟨n5, hn5⟩ : ∃ n5, n5 = (Lk.stuck t).length := ⟨_, rfl⟩
      rw [← hn5] at e5
      subst e5
      have HLn := Lib.hid hLn; have HNN := Lib.hid hN; have HB5 := Lib.hid hb5
      have hz := HBel.out.size
      clear hLn hN hb5 KY SR hn5
      go_wp2
      go_ret
      exact ⟨_, rfl, HLn.out, fun k e => by have := HNN.out k e; simp at this; omega, HBel.out.trans (((one wr _).trans (HB5.out.mono (by simp))).mono hz)⟩
end Go.Proofs.Ytpkldcnkadfhgaa
