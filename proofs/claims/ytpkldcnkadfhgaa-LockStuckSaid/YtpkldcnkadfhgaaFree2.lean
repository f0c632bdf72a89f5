/- What Free does, said of one and the same list of locks. -/
import Derived.Test.YtpkldcnkadfhgaaHolders
namespace Go.Proofs.Ytpkldcnkadfhgaa
open Go.RowKit

def GoneF (w : World) (bl : Blocks) (tb : Nat) (lv : Value) (ls : List Nat) (t : Lk.T) (w' : World) : Prop := ∃ bl' wv', Rep w' bl' tb lv wv' ls t ∧ Lk.TOk t ∧ (∀ r k, bl' r = some k → bl r = some k ∨ w.heap.size ≤ k) ∧ Fr (Fp bl) w w'
def freeInF (w : World) (bl : Blocks) (tb : Nat) (lv : Value) (ls : List Nat) (t : Lk.T) (k p : Int) (e : Ending) (w' : World) : Prop :=
  ∃ (i : Nat) (l : Lk.L), k = (i : Int) + 1 ∧ t.ls[i]? = some l ∧ Lk.isP p ∧
    ((Lk.kget l.held p = 0 ∧ e = .returned (.tuple #[.int .i64 0, .int .i64 6]) ∧ Below w.heap.size w w') ∨
     (Lk.kget l.held p ≠ 0 ∧ e = .returned (.tuple #[.int .i64 (Lk.freed l p).2, .int .i64 0]) ∧ GoneF w bl tb lv ls (Lk.free t i l p).1 w'))
def freePostF (w : World) (bl : Blocks) (tb : Nat) (lv : Value) (ls : List Nat) (t : Lk.T) (k p : Int) (e : Ending) (w' : World) : Prop :=
  if chk t.ls.length k p ≠ 0 then e = .returned (.tuple #[.int .i64 0, .int .i64 (chk t.ls.length k p)]) ∧ Below w.heap.size w w'
  else freeInF w bl tb lv ls t k p e w'

set_option maxRecDepth 100000 in
set_option maxHeartbeats 2000000 in
theorem freeF_any (bl : Blocks) (tb : Nat) (lv : Value) (wv : Nat → Value) (ls : List Nat) (t : Lk.T) (k p : Int) (w : World) (hR00 : Rep w bl tb lv wv ls t) (hok0 : Lk.TOk t) :
    Calls Try.prog 16 #[.pointer (some ⟨tb, 0, none⟩), .int .i64 k, .int .i64 p] w (freePostF w bl tb lv ls t k p) := by
  have h : Tab w bl tb t := ⟨⟨lv, wv, ls, hR00⟩, hok0⟩
  have HR00 := Lib.hid hR00
  clear hR00 hok0
  have HC := Lib.hid (check_any bl tb t k p w h)
  unfold still at HC
  unfold freePostF
  rcases chk_cases t.ls.length k p with hc | ⟨hc, hp, hk1, hk2⟩
  · have hne : chk t.ls.length k p ≠ 0 := by omega
    simp only [if_pos hne]
    clear h
    generalize chk t.ls.length k p = c at *
    have hne2 : (c != 0) = true := by simpa using hne
    clear hc
    go_enter Try.func16, Try.ntmps16
    go_wp2_with fail
    refine HC.out.mono ?_
    rintro e w1 ⟨rfl, hb⟩
    have HB := Lib.hid hb
    clear hb
    go_wp2
    go_ret2
    exact ⟨rfl, HB.out⟩
  · have hne : ¬ (chk t.ls.length k p ≠ 0) := by omega
    simp only [if_neg hne]
    rw [hc] at HC
    have hpw := isP_wf hp
    have HT := Lib.hid h
    clear h hc
    obtain ⟨i, rfl⟩ : ∃ i : Nat, k = (i : Int) + 1 := ⟨(k - 1).toNat, by omega⟩
    have hi : i < t.ls.length := by omega
    obtain ⟨l, hl⟩ : ∃ l, t.ls[i]? = some l := ⟨_, List.getElem?_eq_getElem hi⟩
    have hi16 : i < 16 := by have := HT.out.ok.n16; omega
    have ei1 : IntKind.i64.wrap ((i : Int) + 1 - 1) = (i : Int) := by rw [IntWalk.i64_in _ (by omega)]; omega
    have ei2 : ((i : Int)).toNat = i := by omega
    have ei3 : IntKind.i64.wrap (i : Int) = (i : Int) := IntWalk.i64_in _ (by omega)
    have ei4 : (i : Int) + 1 - 1 = (i : Int) := by omega
    have ei0 : (0 : Int) ≤ (i : Int) := by omega
    go_enter Try.func16, Try.ntmps16
    go_wp2_with fail
    refine HC.out.mono ?_
    rintro e w2 ⟨rfl, hb⟩
    have HB2 := Lib.hid hb
    clear hb HC
    have hR0 := HR00.out
    have hok := HT.out.ok
    have hR := hR0.below HB2.out
    obtain ⟨q, cap, rfl, hcap, hcm, hq⟩ := hR.form
    obtain ⟨g, rfl, hg, hgc⟩ := hq (by have := hR.len; omega)
    obtain ⟨lb, hb, e3, els, e4, e5, hK⟩ := hR.lock i l hl
    have hlen := hR.len
    have c0 : w2.cell? ⟨tb, 0, none⟩ = some (.slice (some ⟨g, 0, none⟩) ls.length cap) := hR.blk.cell 0 (by omega)
    have cg := hgc i lb els
    have k2 : w2.cell? ⟨lb, 2, none⟩ = some (.map (some hb)) := hK.blk.cell 2 (by omega)
    have htb := hR.lt _ _ hR.hT
    have hlb := hK.blk.lt
    have hlo := hok.ok l (List.mem_of_getElem? hl)
    have hlt2 : (i : Int) < (ls.length : Int) := by omega
    have HOK := Lib.hid hok
    have HLO := Lib.hid hlo
    have HR := Lib.hid hR
    have HK := Lib.hid hK
    have HNL := Lib.hid (hR.nev e5 e3 (by simp))
    have HNH := Lib.hid (hR.nev e5 e4 (by simp))
    have HNN := Lib.hid (hR.ne e3 e4 (by simp))
    clear hR0 hR hK hgc hq hcap hok hlo HR00
    by_cases h0 : Lk.kget l.held p = 0
    · go_wp2_with (at_lookup; refine wpList_get _ rfl _ _ rfl hb _ p rfl HK.out.map rfl hpw ?_; rw [h0])
      go_ret2
      exact ⟨i, l, rfl, hl, hp, .inl ⟨h0, rfl, HB2.out⟩⟩
    · have hb0 : (Lk.kget l.held p == 0) = false := by simpa using h0
      have GB := Lib.hid (giveBack_any lb hb (wv i) l p w2 HK.out HLO.out hp HNL.out HNH.out HNN.out)
      have HH0 := Lib.hid h0
      clear h0
      go_wp2_with (at_lookup; refine wpList_get _ rfl _ _ rfl hb _ p rfl HK.out.map rfl hpw ?_)
      refine GB.out.mono ?_
      rintro e w3 ⟨rfl, hL3, hF3⟩
      have PA := Lib.hid (passOn_any lb hb (wv i) _ w3 hL3 (by have := HLO.out.f0; simp only; omega) (by have := HLO.out.free_le; simp only; omega) (fun y => by
        have h1 : 0 ≤ Lk.kget (Lk.less l.held p) y := by
          cases e : Lk.khas (Lk.less l.held p) y with
          | false => rw [Lk.kget_zero e]; omega
          | true => have := (HLO.out.less HH0.out _ (Lk.kget_mem e)).2; simp only at this; omega
        have h2 := Lk.kget_le_sum (k := y) (l := Lk.less l.held p) fun z hz => by have := (HLO.out.less HH0.out z hz).2; omega
        have h3 := Lk.sum_less HLO.out.asc p
        have := HLO.out.bal; have := HLO.out.t16; have := HLO.out.f0
        exact ⟨h1, by simp only; omega⟩) HLO.out.ps (by have := HLO.out.wait_len; simp only; omega) (by have := Lk.len_less l.held p; have := HLO.out.held_len; simp only; omega) HNL.out HNH.out HNN.out)
      unfold passPost at PA
      have HFE : Hid (Lk.TOk (Lk.free t i l p).1) := Lib.hid (HOK.out.free hl HH0.out)
      have HL3 := Lib.hid hL3; have HF3 := Lib.hid hF3
      clear hL3 hF3 GB
      cases hw : l.wait with
      | nil =>
        simp only [hw] at PA
        go_wp2_with fail
        refine PA.out.mono ?_
        rintro e w4 ⟨rfl, hb4⟩
        have HB4 := Lib.hid hb4
        clear hb4 PA
        have hE := free_end (v := wv i) (W4 := w4) HB2.out HR.out hl e3 e4 (HF3.out.below_then HB4.out) e5 (Lock.fr (S := none_) HL3.out (Fr.of_below HB4.out) id id (fun _ _ => id))
        have c1 : w4.cell? ⟨tb, 1, none⟩ = some (.map (bl (2, 0))) := by have := hE.1.blk.cell 1 (by omega); rwa [put5_other _ _ (by simp)] at this
        have htb4 := hE.1.lt _ _ hE.1.hT
        have HE := Lib.hid hE
        clear hE
        have hz := HOK.out.noZero
        have RES : Hid (∀ W', GoneF w bl tb (.slice (some ⟨g, 0, none⟩) ls.length cap) ls { t with ls := t.ls.set i { l with free := l.free + 1, held := Lk.less l.held p } } W' → freeInF w bl tb (.slice (some ⟨g, 0, none⟩) ls.length cap) ls t ((i : Int) + 1) p (.returned (.tuple #[.int .i64 0, .int .i64 0])) W') := Lib.hid fun W' hG => by
          have ef : Lk.freed l p = ({ l with free := l.free + 1, held := Lk.less l.held p }, 0) := by unfold Lk.freed; rw [hw]
          refine ⟨i, l, rfl, hl, hp, .inr ⟨HH0.out, by rw [ef], ?_⟩⟩
          unfold Lk.free
          rw [ef, hz]
          exact hG
        have HFE2 : Hid (Lk.TOk { t with ls := t.ls.set i { l with free := l.free + 1, held := Lk.less l.held p } }) := Lib.hid (by
          have := HFE.out
          unfold Lk.free at this
          have ef : Lk.freed l p = ({ l with free := l.free + 1, held := Lk.less l.held p }, 0) := by unfold Lk.freed; rw [hw]
          rw [ef, hz] at this
          exact this)
        have w0 : (Lit.int .i64 0).wf = true := wf64 (by omega) (by omega)
        cases hm : bl (2, 0) with
        | none =>
          rw [hm] at c1
          go_wp2_with (at_delete; refine wpList_del_nil _ rfl _ _ rfl 0 rfl rfl w0 ?_)
          go_ret2
          exact RES.out _ ⟨_, _, HE.out.1, HFE2.out, HE.out.2.2, HE.out.2.1⟩
        | some m =>
          rw [hm] at c1
          have hm' : put5 bl (5, i) (wv i).ownBlock (2, 0) = some m := by rw [put5_other _ _ (by simp)]; exact hm
          go_wp2_with (at_delete; refine wpList_del _ rfl _ _ rfl m _ 0 rfl (HE.out.1.waits m hm') rfl w0 ?_; intro w5 hM5 hT5)
          go_ret2
          rw [hz] at hM5
          rw [← hlen]
          refine RES.out _ ⟨_, _, HE.out.1.turnWaits hm' hT5 hM5, HFE2.out, HE.out.2.2, HE.out.2.1.map (.inl ⟨_, hm⟩) hT5⟩
      | cons q0 r =>
        simp only [hw] at PA
        go_wp2_with fail
        refine PA.out.mono ?_
        rintro e w4 ⟨rfl, ⟨v', hv', hL4⟩, hF4⟩
        clear PA
        have hE := free_end (v := v') (W4 := w4) HB2.out HR.out hl e3 e4 (HF3.out.trans hF4) (hv'.trans e5) hL4
        have c1 : w4.cell? ⟨tb, 1, none⟩ = some (.map (bl (2, 0))) := by have := hE.1.blk.cell 1 (by omega); rwa [put5_other _ _ (by simp)] at this
        have htb4 := hE.1.lt _ _ hE.1.hT
        have hmm : ∃ m, bl (2, 0) = some m := by
          cases hm : bl (2, 0) with
          | some m => exact ⟨m, rfl⟩
          | none =>
            have h1 := HR.out.waits0 hm
            have h2 := HOK.out.w1 i l q0 hl (by rw [hw]; simp)
            rw [h1] at h2; cases h2
        obtain ⟨m, hm⟩ := hmm
        rw [hm] at c1
        have HE := Lib.hid hE
        clear hE hL4 hF4
        have ef : Hid (Lk.freed l p = ({ l with held := Lk.kput q0 (Lk.kget (Lk.less l.held p) q0 + 1) (Lk.less l.held p), wait := r }, q0)) := Lib.hid (by unfold Lk.freed; rw [hw])
        have RES : Hid (∀ W', GoneF w bl tb (.slice (some ⟨g, 0, none⟩) ls.length cap) ls { ls := t.ls.set i { l with held := Lk.kput q0 (Lk.kget (Lk.less l.held p) q0 + 1) (Lk.less l.held p), wait := r }, waits := Lk.kdel q0 t.waits } W' → freeInF w bl tb (.slice (some ⟨g, 0, none⟩) ls.length cap) ls t ((i : Int) + 1) p (.returned (.tuple #[.int .i64 q0, .int .i64 0])) W') := Lib.hid fun W' hG => by
          refine ⟨i, l, rfl, hl, hp, .inr ⟨HH0.out, by rw [ef.out], ?_⟩⟩
          unfold Lk.free
          rw [ef.out]
          exact hG
        have HFE2 : Hid (Lk.TOk { ls := t.ls.set i { l with held := Lk.kput q0 (Lk.kget (Lk.less l.held p) q0 + 1) (Lk.less l.held p), wait := r }, waits := Lk.kdel q0 t.waits }) := Lib.hid (by
          have := HFE.out
          unfold Lk.free at this
          rw [ef.out] at this
          exact this)
        have w0 : (Lit.int .i64 q0).wf = true := isP_wf (HLO.out.ps q0 (by rw [hw]; simp))
        have hm' : put5 bl (5, i) v'.ownBlock (2, 0) = some m := by rw [put5_other _ _ (by simp)]; exact hm
        go_wp2_with (at_delete; refine wpList_del _ rfl _ _ rfl m _ q0 rfl (HE.out.1.waits m hm') rfl w0 ?_; intro w5 hM5 hT5)
        go_ret2
        have hfree : l.free + 1 - 1 = l.free := by omega
        have HE1 := HE.out.1
        simp only [hfree] at HE1
        rw [← hlen]
        refine RES.out _ ⟨_, _, HE1.turnWaits hm' hT5 hM5, HFE2.out, HE.out.2.2, HE.out.2.1.map (.inl ⟨_, hm⟩) hT5⟩
end Go.Proofs.Ytpkldcnkadfhgaa
