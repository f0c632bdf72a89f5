/- What run does: a call on the table. -/
import Derived.Test.YtpkldcnkadfhgaaWithdraw
namespace Go.Proofs.Ytpkldcnkadfhgaa
open Go.RowKit

namespace Lk
/-- A call: the state behind it; has it no error? -/
def step (t : T) (kd k p : Int) : T × Bool :=
  if kd = 0 then if k < 1 ∨ 16 < k then (t, false) else if t.ls.length = 16 then (t, false) else (make t k, true)
  else if kd = 1 then
    if chk t.ls.length k p ≠ 0 then (t, false) else if khas t.waits p = true then (t, false)
    else match t.ls[(k - 1).toNat]? with | some l => ((hold t (k - 1).toNat l p).1, true) | none => (t, false)
  else if kd = 2 then
    if chk t.ls.length k p ≠ 0 then (t, false)
    else match t.ls[(k - 1).toNat]? with | some l => if kget l.held p = 0 then (t, false) else ((free t (k - 1).toNat l p).1, true) | none => (t, false)
  else if kd = 3 then
    if khas t.waits p = true then
      match t.ls[(kget t.waits p - 1).toNat]? with | some l => (withdraw t (kget t.waits p - 1).toNat l p, true) | none => (t, true)
    else (t, true)
  else (t, true)
end Lk

theorem Tab.stay {w w' : World} {bl : Blocks} {tb : Nat} {t : Lk.T} (h : Tab w bl tb t) (hb : Below w.heap.size w w') : Gone w bl tb t w' :=
  ⟨bl, h.below hb, fun _ _ e => .inl e, Fr.of_below hb⟩
def runPost (w : World) (bl : Blocks) (tb : Nat) (t : Lk.T) (kd k p : Int) (e : Ending) (w' : World) : Prop :=
  e = .returned (.bool (Lk.step t kd k p).2) ∧ Gone w bl tb (Lk.step t kd k p).1 w'
theorem gone_trans {w w1 w2 : World} {bl : Blocks} {tb : Nat} {t : Lk.T} (hb : Below w.heap.size w w1) (h : Gone w1 bl tb t w2) : Gone w bl tb t w2 := by
  obtain ⟨bl', h1, h2, h3⟩ := h
  refine ⟨bl', h1, fun r k e => (h2 r k e).imp id fun h => by have := hb.size; omega, (Fr.of_below hb).trans h3⟩

set_option maxRecDepth 100000 in
set_option maxHeartbeats 2000000 in
theorem run_any (bl : Blocks) (tb : Nat) (t : Lk.T) (kd k p : Int) (w : World) (h : Tab w bl tb t) (hpw : (Lit.int .i64 p).wf = true) :
    Calls Try.prog 22 #[.pointer (some ⟨tb, 0, none⟩), .agg #[.int .i64 kd, .int .i64 k, .int .i64 p]] w (runPost w bl tb t kd k p) := by
  have hT1 : Tab (w.alloc (.cells #[.int .i64 kd, .int .i64 k, .int .i64 p] 29)) bl tb t := h.below (one _ _)
  have HB1 := Lib.hid (one w (.cells #[.int .i64 kd, .int .i64 k, .int .i64 p] 29))
  have HT1 := Lib.hid hT1
  unfold runPost Lk.step
  by_cases k0 : kd = 0
  · subst k0
    have MK := Lib.hid (make_any bl tb t k _ hT1)
    unfold makePost at MK
    simp only [if_true]
    clear h hT1
    by_cases c1 : k < 1 ∨ 16 < k
    · simp only [if_pos c1] at MK ⊢
      clear c1
      go_enter Try.func22, Try.ntmps22
      go_wp2_with fail
      refine MK.out.mono ?_
      rintro e w2 ⟨rfl, hb⟩
      have HG := Lib.hid (gone_trans HB1.out (HT1.out.stay hb))
      clear hb MK
      go_wp2
      go_ret
      exact ⟨rfl, HG.out⟩
    · simp only [if_neg c1] at MK ⊢
      clear c1
      by_cases c2 : t.ls.length = 16
      · simp only [if_pos c2] at MK ⊢
        clear c2
        go_enter Try.func22, Try.ntmps22
        go_wp2_with fail
        refine MK.out.mono ?_
        rintro e w2 ⟨rfl, hb⟩
        have HG := Lib.hid (gone_trans HB1.out (HT1.out.stay hb))
        clear hb MK
        go_wp2
        go_ret
        exact ⟨rfl, HG.out⟩
      · simp only [if_neg c2] at MK ⊢
        clear c2
        go_enter Try.func22, Try.ntmps22
        go_wp2_with fail
        refine MK.out.mono ?_
        rintro e w2 ⟨rfl, hG⟩
        have HG := Lib.hid (gone_trans HB1.out hG)
        clear hG MK
        go_wp2
        go_ret
        exact ⟨rfl, HG.out⟩
  · have j0 : (kd == 0) = false := by simpa using k0
    simp only [if_neg k0]
    by_cases k1 : kd = 1
    · subst k1
      have HD := Lib.hid (hold_any bl tb t k p _ hT1 hpw)
      have RES : Hid (∀ e W, holdPost (w.alloc (.cells #[.int .i64 1, .int .i64 k, .int .i64 p] 29)) bl tb t k p e W → ∃ a b, e = .returned (.tuple #[.bool a, .int .i64 b]) ∧ (b == 0) = (if chk t.ls.length k p ≠ 0 then (t, false) else if Lk.khas t.waits p = true then (t, false) else match t.ls[(k - 1).toNat]? with | some l => ((Lk.hold t (k - 1).toNat l p).1, true) | none => (t, false)).2 ∧ Gone w bl tb (if chk t.ls.length k p ≠ 0 then (t, false) else if Lk.khas t.waits p = true then (t, false) else match t.ls[(k - 1).toNat]? with | some l => ((Lk.hold t (k - 1).toNat l p).1, true) | none => (t, false)).1 W) := Lib.hid fun e W hp => by
        unfold holdPost at hp
        by_cases c1 : chk t.ls.length k p ≠ 0
        · rw [if_pos c1] at hp ⊢
          exact ⟨_, _, hp.1, by simpa using c1, gone_trans HB1.out (HT1.out.stay hp.2)⟩
        · rw [if_neg c1] at hp ⊢
          by_cases c2 : Lk.khas t.waits p = true
          · rw [if_pos c2] at hp ⊢
            exact ⟨_, _, hp.1, rfl, gone_trans HB1.out (HT1.out.stay hp.2)⟩
          · rw [if_neg c2] at hp ⊢
            obtain ⟨i, l, hk, hl, -, he, hG⟩ := hp
            have hi : (k - 1).toNat = i := by omega
            rw [hi, hl]
            exact ⟨_, _, he, rfl, gone_trans HB1.out hG⟩
      simp only [if_true]
      clear h hT1 HB1 HT1
      generalize (if chk t.ls.length k p ≠ 0 then (t, false) else if Lk.khas t.waits p = true then (t, false) else match t.ls[(k - 1).toNat]? with | some l => ((Lk.hold t (k - 1).toNat l p).1, true) | none => (t, false)) = R at RES ⊢
      obtain ⟨R1, R2⟩ := R
      simp only at RES ⊢
      go_enter Try.func22, Try.ntmps22
      go_wp2_with fail
      refine HD.out.mono ?_
      intro e w2 hp
      obtain ⟨a, b, rfl, hb, hG⟩ := RES.out e w2 hp
      subst hb
      have HG := Lib.hid hG
      clear hp hG HD RES
      go_wp2
      go_ret
      exact ⟨rfl, HG.out⟩
    · have j1 : (kd == 1) = false := by simpa using k1
      simp only [if_neg k1]
      by_cases k2 : kd = 2
      · subst k2
        have HD := Lib.hid (free_any bl tb t k p _ hT1)
        have RES : Hid (∀ e W, freePost (w.alloc (.cells #[.int .i64 2, .int .i64 k, .int .i64 p] 29)) bl tb t k p e W → ∃ a b, e = .returned (.tuple #[.int .i64 a, .int .i64 b]) ∧ (b == 0) = (if chk t.ls.length k p ≠ 0 then (t, false) else match t.ls[(k - 1).toNat]? with | some l => if Lk.kget l.held p = 0 then (t, false) else ((Lk.free t (k - 1).toNat l p).1, true) | none => (t, false)).2 ∧ Gone w bl tb (if chk t.ls.length k p ≠ 0 then (t, false) else match t.ls[(k - 1).toNat]? with | some l => if Lk.kget l.held p = 0 then (t, false) else ((Lk.free t (k - 1).toNat l p).1, true) | none => (t, false)).1 W) := Lib.hid fun e W hp => by
          unfold freePost at hp
          by_cases c1 : chk t.ls.length k p ≠ 0
          · rw [if_pos c1] at hp ⊢
            exact ⟨_, _, hp.1, by simpa using c1, gone_trans HB1.out (HT1.out.stay hp.2)⟩
          · rw [if_neg c1] at hp ⊢
            obtain ⟨i, l, hk, hl, -, hq⟩ := hp
            have hi : (k - 1).toNat = i := by omega
            rw [hi, hl]
            simp only
            rcases hq with ⟨h0, he, hb⟩ | ⟨h0, he, hG⟩
            · rw [if_pos h0]
              exact ⟨_, _, he, rfl, gone_trans HB1.out (HT1.out.stay hb)⟩
            · rw [if_neg h0]
              exact ⟨_, _, he, rfl, gone_trans HB1.out hG⟩
        simp only [if_true]
        clear h hT1 HB1 HT1
        generalize (if chk t.ls.length k p ≠ 0 then (t, false) else match t.ls[(k - 1).toNat]? with | some l => if Lk.kget l.held p = 0 then (t, false) else ((Lk.free t (k - 1).toNat l p).1, true) | none => (t, false)) = R at RES ⊢
        obtain ⟨R1, R2⟩ := R
        simp only at RES ⊢
        go_enter Try.func22, Try.ntmps22
        go_wp2_with fail
        refine HD.out.mono ?_
        intro e w2 hp
        obtain ⟨a, b, rfl, hb, hG⟩ := RES.out e w2 hp
        subst hb
        have HG := Lib.hid hG
        clear hp hG HD RES
        go_wp2
        go_ret
        exact ⟨rfl, HG.out⟩
      · have j2 : (kd == 2) = false := by simpa using k2
        simp only [if_neg k2]
        by_cases k3 : kd = 3
        · subst k3
          have HD := Lib.hid (withdraw_any bl tb t p _ hT1 hpw)
          have RES : Hid (∀ e W, wdPost (w.alloc (.cells #[.int .i64 3, .int .i64 k, .int .i64 p] 29)) bl tb t p e W → ∃ a, e = .returned (.bool a) ∧ Gone w bl tb (if Lk.khas t.waits p = true then match t.ls[(Lk.kget t.waits p - 1).toNat]? with | some l => (Lk.withdraw t (Lk.kget t.waits p - 1).toNat l p, true) | none => (t, true) else (t, true)).1 W ∧ (if Lk.khas t.waits p = true then match t.ls[(Lk.kget t.waits p - 1).toNat]? with | some l => (Lk.withdraw t (Lk.kget t.waits p - 1).toNat l p, true) | none => (t, true) else (t, true)).2 = true) := Lib.hid fun e W hp => by
            obtain ⟨he, hp⟩ := hp
            refine ⟨_, he, ?_⟩
            by_cases c1 : Lk.khas t.waits p = true
            · rw [if_pos c1] at hp ⊢
              obtain ⟨i, l, hl, hm, hG⟩ := hp
              have h1 := Lk.kget_of_mem HT1.out.ok.asc (HT1.out.ok.w1 i l p hl hm)
              have hi : (Lk.kget t.waits p - 1).toNat = i := by omega
              rw [hi, hl]
              exact ⟨gone_trans HB1.out hG, rfl⟩
            · rw [if_neg c1] at hp ⊢
              exact ⟨gone_trans HB1.out (HT1.out.stay hp), rfl⟩
          simp only [if_true]
          clear h hT1 HB1 HT1
          generalize (if Lk.khas t.waits p = true then match t.ls[(Lk.kget t.waits p - 1).toNat]? with | some l => (Lk.withdraw t (Lk.kget t.waits p - 1).toNat l p, true) | none => (t, true) else (t, true)) = R at RES ⊢
          obtain ⟨R1, R2⟩ := R
          simp only at RES ⊢
          go_enter Try.func22, Try.ntmps22
          go_wp2_with fail
          refine HD.out.mono ?_
          intro e w2 hp
          obtain ⟨a, rfl, hG, hb⟩ := RES.out e w2 hp
          subst hb
          have HG := Lib.hid hG
          clear hp hG HD RES
          go_wp2
          go_ret
          exact ⟨rfl, HG.out⟩
        · have j3 : (kd == 3) = false := by simpa using k3
          simp only [if_neg k3]
          have HG := Lib.hid (h.stay HB1.out)
          clear h hT1 HB1 HT1 k0 k1 k2 k3
          go_enter Try.func22, Try.ntmps22
          go_wp2
          go_ret
          exact ⟨rfl, HG.out⟩
end Go.Proofs.Ytpkldcnkadfhgaa
