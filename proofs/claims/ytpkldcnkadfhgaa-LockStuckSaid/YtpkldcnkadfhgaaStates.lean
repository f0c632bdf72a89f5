/- What states does: the states of all locks. -/
import Derived.Test.YtpkldcnkadfhgaaTState
namespace Go.Proofs.Ytpkldcnkadfhgaa
open Go.RowKit

/-- A state in a list. -/
structure SV where
  tot : Int
  free : Int
  hv : Value
  qv : Value
def svC (s : SV) : List Value := [.int .i64 s.tot, .int .i64 s.free, s.hv, s.qv]
theorem info44 : (Try.prog.info? 44).map (fun i => (i.zero, i.size, i.bytes)) = some (some (.agg #[.int .i64 0, .int .i64 0, .slice none 0 0, .slice none 0 0]), 4, 64) := by kernel_rfl

structure Sts (w0 : World) (t : Lk.T) (i : Nat) (v : Value) (Ss : List SV) (wt : World) : Prop where
  row : wt.ownsRow w0.heap.size 44 4 v Ss.length (Ss.flatMap svC)
  len : Ss.length = min i t.ls.length
  each : ∀ (j : Nat) s, Ss[j]? = some s → ∃ l : Lk.L, t.ls[j]? = some l ∧ s.tot = l.tot ∧ s.free = l.free ∧ HRow wt w0.heap.size s.hv l.held ∧ Line wt s.qv l.wait ∧ (∀ k, s.qv.ownBlock = some k → w0.heap.size ≤ k) ∧ (∀ k, v.ownBlock = some k → s.hv.ownBlock ≠ some k ∧ s.qv.ownBlock ≠ some k)
  bel : Below w0.heap.size w0 wt
theorem HRow.block {W : World} {b : Nat} {v : Value} {l : Lk.KV} (h : HRow W b v l) : ∀ k, v.ownBlock = some k → b ≤ k ∧ k < W.heap.size := World.ownsRow.lt h
section
variable {w0 wt W : World} {t : Lk.T} {i : Nat} {v v' : Value} {Ss : List SV}
theorem Sts.below (h : Sts w0 t i v Ss wt) (hb : Below wt.heap.size wt W) : Sts w0 t i v Ss W :=
  ⟨owns_fr h.row (S := none_) (Fr.of_below hb) (fun _ _ hn => hn), h.len, fun j s e => by
    obtain ⟨l, h1, h2, h3, h4, h5, h6, h7⟩ := h.each j s e
    exact ⟨l, h1, h2, h3, h4.below hb, h5.below hb, h6, h7⟩, h.bel.trans (hb.mono h.bel.size)⟩
theorem Sts.skip (h : Sts w0 t i v Ss wt) (hi : t.ls.length ≤ i) : Sts w0 t (i + 1) v Ss wt := ⟨h.row, by rw [h.len]; omega, h.each, h.bel⟩
/-- One more. -/
theorem Sts.add (h : Sts w0 t i v Ss wt) {s : SV} {l : Lk.L} (hl : t.ls[i]? = some l) (h1 : s.tot = l.tot) (h2 : s.free = l.free) (h3 : HRow wt w0.heap.size s.hv l.held) (h4 : Line wt s.qv l.wait) (h5 : ∀ k, s.qv.ownBlock = some k → w0.heap.size ≤ k)
    (h6 : ∀ k, v.ownBlock = some k → s.hv.ownBlock ≠ some k ∧ s.qv.ownBlock ≠ some k) (hr : W.ownsRow w0.heap.size 44 4 v' (Ss.length + 1) (Ss.flatMap svC ++ svC s)) (hg : wt.grownBy W v.ownBlock) (hat : v'.ownBlock = v.ownBlock ∨ v'.ownBlock = some wt.heap.size) : Sts w0 t (i + 1) v' (Ss ++ [s]) W := by
  have hF : Fr (fun x => v.ownBlock = some x) wt W := Fr.grown (Fr.refl _ _) hg fun x e => .inl e
  have hi : i < t.ls.length := (List.getElem?_eq_some_iff.1 hl).1
  have hlen : Ss.length = i := by rw [h.len]; omega
  have key : ∀ (l : Lk.L) (s : SV), HRow wt w0.heap.size s.hv l.held → Line wt s.qv l.wait → (∀ k, v.ownBlock = some k → s.hv.ownBlock ≠ some k ∧ s.qv.ownBlock ≠ some k) →
      HRow W w0.heap.size s.hv l.held ∧ Line W s.qv l.wait ∧ (∀ k, v'.ownBlock = some k → s.hv.ownBlock ≠ some k ∧ s.qv.ownBlock ≠ some k) := fun l s a b c => by
    refine ⟨a.fr hF fun k e e' => (c k e').1 e, b.fr hF fun k e e' => (c k e').2 e, fun k e => ?_⟩
    rcases hat with h0 | h0
    · exact c k (h0 ▸ e)
    · rw [h0] at e; cases e
      exact ⟨fun e => by have := (a.block _ e).2; omega, fun e => by have := b.block _ e; omega⟩
  refine ⟨by simpa [List.flatMap_append] using hr, by simp [hlen]; omega, fun j s' e => ?_, h.bel.trans (hF.below (fun x e => (h.row.lt x e).1) h.bel.size)⟩
  by_cases hj : j < Ss.length
  · rw [List.getElem?_append_left hj] at e
    obtain ⟨l', e1, e2, e3, e4, e5, e6, e7⟩ := h.each j s' e
    obtain ⟨k1, k2, k3⟩ := key l' s' e4 e5 e7
    exact ⟨l', e1, e2, e3, k1, k2, e6, k3⟩
  · rw [List.getElem?_append_right (by omega)] at e
    have hj2 : j - Ss.length = 0 := by have := (List.getElem?_eq_some_iff.1 e).1; simp at this; omega
    rw [hj2] at e
    have es : s = s' := by simpa using e
    subst es
    have hji : j = i := by omega
    subst hji
    obtain ⟨k1, k2, k3⟩ := key l s h3 h4 h6
    exact ⟨l, hl, h1, h2, k1, k2, h5, k3⟩
end

def stsPost (w : World) (t : Lk.T) (e : Ending) (w' : World) : Prop := ∃ v Ss, e = .returned v ∧ Sts w t 16 v Ss w'
set_option maxRecDepth 100000 in
set_option maxHeartbeats 4000000 in
theorem states_any (bl : Blocks) (tb : Nat) (t : Lk.T) (w : World) (h : Tab w bl tb t) : Calls Try.prog 23 #[.pointer (some ⟨tb, 0, none⟩)] w (stsPost w t) := by
  unfold stsPost
  have HS : Hid (∀ W k, Below w.heap.size w W → Calls Try.prog 17 #[.pointer (some ⟨tb, 0, none⟩), .int .i64 k] W (tsPost W t k)) := Lib.hid fun W k hW => tstate_any bl tb t k W (h.below hW)
  have hn16 := h.ok.n16
  clear h
  go_enter Try.func23, Try.ntmps23
  go_wp2_with fail
  go_loopw [4, 3] (fun vi vo wt => ∃ (i : Nat) (Ss : List SV), i ≤ 16 ∧ vi = .int .i64 ((i : Int) + 1) ∧ Sts w t i vo Ss wt) (fun vi _ _ => 17 - (intOf vi).toNat)
  case atStart => exact ⟨0, [], by omega, rfl, ⟨World.ownsRow_nil _ _ _ _, by simp, by simp, Below.refl _ _⟩⟩
  case round =>
    obtain ⟨i, Ss, hi, rfl, hS⟩ := hrel
    obtain ⟨po, co, rfl⟩ := owns_form hS.row
    have HSt := Lib.hid hS
    have hlen := hS.len
    have hsz := hS.bel.size
    obtain ⟨no, hno⟩ : ∃ no, no = Ss.length := ⟨_, rfl⟩
    rw [← hno] at HSt ⊢
    have hno2 : no ≤ 16 := by omega
    have TS := Lib.hid (HS.out wr ((i : Int) + 1) hS.bel)
    have ei : IntKind.i64.wrap ((i : Int) + 1 + 1) = (i : Int) + 1 + 1 := IntWalk.i64_in _ (by omega)
    have HNO := Lib.hid hno
    clear hS hno hlen
    by_cases hlt : i < 16
    · have hc : ((i : Int) + 1 ≤ 16) := by omega
      by_cases hk : i < t.ls.length
      · unfold tsPost at TS
        have hk1 : 1 ≤ (i : Int) + 1 ∧ (i : Int) + 1 ≤ t.ls.length := by omega
        simp only [if_pos hk1] at TS
        clear hk1
        go_wp2_with fail
        refine TS.out.mono ?_
        rintro e w2 ⟨i', l, hv, qv, hii, hl, rfl, hH, hL, hN, hb⟩
        obtain rfl : i = i' := by omega
        obtain ⟨ph, ch, rfl⟩ := owns_form hH
        obtain ⟨pq, cq, e', -⟩ := hL.form
        obtain ⟨nq, hnq⟩ : ∃ nq, nq = l.wait.length := ⟨_, rfl⟩
        obtain ⟨nh, hnh⟩ : ∃ nh, nh = l.held.length := ⟨_, rfl⟩
        rw [← hnq] at e'
        subst e'
        rw [← hnh] at hH ⊢
        have HH := Lib.hid hH; have HL := Lib.hid hL; have HN := Lib.hid hN; have HB := Lib.hid hb; have HLl := Lib.hid hl
        obtain ⟨i0, hi0, hz0, hz1, hzb⟩ := info_parts info44
        have HI := Lib.hid hi0; have HZ0 := Lib.hid hz0; have HZ1 := Lib.hid hz1; have HZ2 := Lib.hid hzb
        have HS3 := Lib.hid ((HSt.out.below hb).below (one w2 (.cells #[.int .i64 l.tot, .int .i64 l.free, .slice ph nh ch, .slice pq nq cq] 44)))
        have KN : Hid (∀ j u, (svC ⟨l.tot, l.free, .slice ph nh ch, .slice pq nq cq⟩)[j]? = some u → ((w2.alloc (.cells #[.int .i64 l.tot, .int .i64 l.free, .slice ph nh ch, .slice pq nq cq] 44)).alloc (.cells #[.int .i64 l.tot, .int .i64 l.free, .slice ph nh ch, .slice pq nq cq] 44)).cell? ((⟨w2.heap.size + 1, 0, none⟩ : Addr).add j) = some u) := Lib.hid (by
          have := cells_new (w2.alloc (.cells #[.int .i64 l.tot, .int .i64 l.free, .slice ph nh ch, .slice pq nq cq] 44)) (svC ⟨l.tot, l.free, .slice ph nh ch, .slice pq nq cq⟩) 44
          rw [World.size_alloc] at this
          exact this)
        have hml := maxLen_big
        have hsz2 := hb.size
        clear hH hL hN hb hl hi0 hz0 hz1 hzb TS hnq hnh
        go_wp2_with (at_builtin; refine wpList_append_own_at _ (by rfl) (.tmp 19) (.tmp 21) 25 (by rfl) w.heap.size 44 i0 (.agg #[.int .i64 0, .int .i64 0, .slice none 0 0, .slice none 0 0]) 4 64 Try.underlying25 HI.out HZ0.out HZ1.out HZ2.out (by rfl) (by decide) (.slice po no co) no (Ss.flatMap svC) (by rfl) (by have := HS3.out.row; rw [← HNO.out] at this; exact this.alloc _) ⟨w2.heap.size + 1, 0, none⟩ 1 1 (svC ⟨l.tot, l.free, .slice ph nh ch, .slice pq nq cq⟩) (by rfl) (by rfl) (by exact KN.out) (by simp [svC, Value.oneCell']) (by omega) (by omega) (by simp; omega) ?_; intro v5 w5 hown5 hG5 _ hat5; obtain ⟨g5, cp5, rfl⟩ := ownsRow_succ hown5; have HO5 := Lib.hid hown5; have HG5 := Lib.hid hG5; have HA5 := Lib.hid hat5; clear hown5 hG5 hat5)
        have HRES : Hid (Sts w t (i + 1) (.slice (some ⟨g5, 0, none⟩) (no + 1) cp5) (Ss ++ [⟨l.tot, l.free, .slice ph nh ch, .slice pq nq cq⟩]) w5) := Lib.hid (by
          have hH1 : HRow w2 w.heap.size (.slice ph nh ch) l.held := owns_base HH.out hsz
          have hB2 : Below w2.heap.size w2 ((w2.alloc (.cells #[.int .i64 l.tot, .int .i64 l.free, .slice ph nh ch, .slice pq nq cq] 44)).alloc (.cells #[.int .i64 l.tot, .int .i64 l.free, .slice ph nh ch, .slice pq nq cq] 44)) := (one w2 _).alloc (by simp) _
          refine (HS3.out.below (one _ (.cells #[.int .i64 l.tot, .int .i64 l.free, .slice ph nh ch, .slice pq nq cq] 44))).add (s := ⟨l.tot, l.free, .slice ph nh ch, .slice pq nq cq⟩) HLl.out rfl rfl (hH1.below hB2) (HL.out.below hB2) (fun k e => by have := HN.out k e; omega) (fun k e => ?_) ?_ HG5.out HA5.out
          · have h1 := (HSt.out.row.lt k e).2
            exact ⟨fun e' => by have := (HH.out.block k e').1; omega, fun e' => by have := HN.out k e'; omega⟩
          · rw [← HNO.out]; exact HO5.out)
        clear HO5 HG5 HA5 HSt HS3 HH HL HN
        go_wp2
        go_roundw
        case rel => exact ⟨i + 1, _, by omega, by go_num, HRES.out⟩
        case measure => simp [intOf]; omega
      · unfold tsPost at TS
        have hk1 : ¬ (1 ≤ (i : Int) + 1 ∧ (i : Int) + 1 ≤ t.ls.length) := by omega
        simp only [if_neg hk1] at TS
        clear hk1
        go_wp2_with fail
        refine TS.out.mono ?_
        rintro e w2 ⟨rfl, hb⟩
        have HRES := Lib.hid (((HSt.out.below hb).below (one w2 (.cells #[.int .i64 0, .int .i64 0, noSl, noSl] 44))).skip (by omega))
        clear hb TS HSt
        go_wp2
        go_roundw
        case rel => exact ⟨i + 1, _, by omega, by go_num, HRES.out⟩
        case measure => simp [intOf]; omega
    · obtain rfl : i = 16 := by omega
      clear TS
      go_wp2
      go_ret
      exact ⟨_, Ss, rfl, HSt.out⟩
end Go.Proofs.Ytpkldcnkadfhgaa
