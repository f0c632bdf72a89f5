/- What the calls of one lock do. -/
import Derived.Test.YtpkldcnkadfhgaaChk
namespace Go.Proofs.Ytpkldcnkadfhgaa
open Go.RowKit

namespace Lk
theorem mem_less {k : KV} {p : Int} {y : Int × Int} (h : y ∈ less k p) : y = (p, kget k p - 1) ∧ kget k p - 1 ≠ 0 ∨ y ∈ k := by
  unfold less at h
  split at h
  · exact .inr (mem_del h).1
  · rename_i hn
    rcases mem_put h with h | h
    · exact .inl ⟨h, hn⟩
    · exact .inr h
theorem asc_less {k : KV} (h : Asc k) (p : Int) : Asc (less k p) := by
  unfold less; split
  · exact h.del _
  · exact h.put _ _
theorem sum_less {k : KV} (h : Asc k) (p : Int) : sum (less k p) = sum k - 1 := by
  unfold less; split
  · rw [sum_del h]; omega
  · rw [sum_put h]; omega
theorem len_less (k : KV) (p : Int) : (less k p).length ≤ k.length + 1 := by
  unfold less; split
  · have := length_del_le p k; omega
  · unfold kput; rw [length_ins]; have := length_del_le p k; omega
theorem LOk.less {l : L} (h : LOk l) {p : Int} (hp : kget l.held p ≠ 0) : ∀ y ∈ less l.held p, isP y.1 ∧ 1 ≤ y.2 := by
  intro y hy
  rcases mem_less hy with ⟨rfl, hn⟩ | hy
  · have h0 := h.held_0 p
    have hk : khas l.held p = true := by
      cases e : khas l.held p with
      | true => rfl
      | false => exact absurd (kget_zero e) hp
    refine ⟨(h.pos _ (kget_mem hk)).1, ?_⟩
    simp only; omega
  · exact h.pos y hy
theorem LOk.freed {l : L} (h : LOk l) {p : Int} (hp : kget l.held p ≠ 0) : LOk (freed l p).1 := by
  have hl := h.less hp
  have hs := sum_less h.asc p
  have hb := h.bal
  unfold Lk.freed
  split
  · rename_i hw
    exact ⟨h.t1, h.t16, by have := h.f0; simp only; omega, by simp only; omega, asc_less h.asc p, hl, h.nd, h.ps, fun _ => hw⟩
  · rename_i q r hw
    have hq := h.ps q (by rw [hw]; simp)
    have hg : 0 ≤ kget (Lk.less l.held p) q := by
      cases e : khas (Lk.less l.held p) q with
      | false => rw [kget_zero e]; omega
      | true => have := (hl _ (kget_mem e)).2; simp only at this; omega
    refine ⟨h.t1, h.t16, h.f0, ?_, (asc_less h.asc p).put _ _, ?_, ?_, ?_, ?_⟩
    · simp only; rw [sum_put (asc_less h.asc p)]; omega
    · intro y hy
      rcases mem_put hy with rfl | hy
      · exact ⟨hq, by simp only; omega⟩
      · exact hl y hy
    · have := h.nd; rw [hw] at this; exact (List.nodup_cons.1 this).2
    · intro y hy; exact h.ps y (by rw [hw]; simp [hy])
    · intro hf; have := h.wake hf; rw [hw] at this; cases this
theorem getElem?_set_cases {α : Type} {l : List α} {i j : Nat} {a b : α} (h : (l.set i a)[j]? = some b) : (j = i ∧ b = a ∧ i < l.length) ∨ (j ≠ i ∧ l[j]? = some b) := by
  by_cases hj : j = i
  · subst hj
    by_cases hl : j < l.length
    · left; simp [List.getElem?_set, hl] at h; exact ⟨rfl, h.symm, hl⟩
    · have : (l.set j a)[j]? = none := List.getElem?_eq_none (by simp; omega)
      rw [this] at h; cases h
  · right; refine ⟨hj, ?_⟩; simpa [List.getElem?_set, Ne.symm hj] using h
theorem TOk.free {t : T} (h : TOk t) {i : Nat} {l : L} (hl : t.ls[i]? = some l) {p : Int} (hp : kget l.held p ≠ 0) : TOk (free t i l p).1 := by
  have hm := List.mem_of_getElem? hl
  have hlo := h.ok l hm
  have hi : i < t.ls.length := (List.getElem?_eq_some_iff.1 hl).1
  have hw0 : ∀ (j : Nat) x q, t.ls[j]? = some x → q ∈ x.wait → q ≠ 0 := fun j x q hj hq e => by
    have := (h.ok x (List.mem_of_getElem? hj)).ps q hq
    unfold isP at this; omega
  unfold Lk.free
  refine ⟨by simpa using h.n16, ?_, h.asc.del _, ?_, ?_⟩
  · intro x hx
    obtain ⟨j, hj⟩ := List.getElem?_of_mem hx
    rcases getElem?_set_cases hj with ⟨-, rfl, -⟩ | ⟨-, hj⟩
    · exact hlo.freed hp
    · exact h.ok x (List.mem_of_getElem? hj)
  · intro j x q hj hq
    refine List.mem_filter.2 ⟨?_, ?_⟩
    · rcases getElem?_set_cases hj with ⟨rfl, rfl, -⟩ | ⟨-, hj⟩
      · refine h.w1 j l q hl ?_
        revert hq
        unfold freed
        split
        · exact id
        · rename_i q0 r hw; intro hq; rw [hw]; simp at hq; simp [hq]
      · exact h.w1 j x q hj hq
    · simp only [Bool.not_eq_true', decide_eq_false_iff_not]
      intro e
      revert e hj
      unfold freed
      split
      · rename_i hw
        simp only
        rintro hj rfl
        rcases getElem?_set_cases hj with ⟨-, rfl, -⟩ | ⟨-, hj⟩
        · simp only at hq; rw [hw] at hq; simp at hq
        · exact hw0 _ _ _ hj hq rfl
      · rename_i q0 r hw
        simp only
        rintro hj rfl
        rcases getElem?_set_cases hj with ⟨-, rfl, -⟩ | ⟨hne, hj⟩
        · have := hlo.nd; rw [hw] at this; exact (List.nodup_cons.1 this).1 hq
        · have e1 := h.w1 i l q hl (by rw [hw]; simp)
          have e2 := h.w1 j x q hj hq
          have g1 := kget_of_mem h.asc e1
          have g2 := kget_of_mem h.asc e2
          omega
  · intro q v hq
    obtain ⟨hq1, hq2⟩ := mem_del hq
    obtain ⟨j, x, hv, hj, hqx⟩ := h.w2 q v hq1
    by_cases hji : j = i
    · subst hji
      rw [hl] at hj; cases hj
      refine ⟨j, (freed l p).1, hv, by simp [List.getElem?_set, hi], ?_⟩
      revert hq2
      unfold freed
      split
      · intro _; exact hqx
      · rename_i q0 r hw
        intro hq2
        rw [hw] at hqx
        rcases List.mem_cons.1 hqx with e | e
        · exact absurd e hq2
        · exact e
    · exact ⟨j, x, hv, by simpa [List.getElem?_set, Ne.symm hji] using hj, hqx⟩
end Lk

theorem maxLen_big : 100000000 ≤ maxLen := by unfold maxLen; omega
theorem isP_wf {p : Int} (h : Lk.isP p) : (Lit.int .i64 p).wf = true := by unfold Lk.isP at h; exact wf64 (by omega) (by omega)

set_option maxRecDepth 100000 in
set_option maxHeartbeats 1000000 in
/-- giveBack. -/
theorem giveBack_any (lb hb : Nat) (v : Value) (l : Lk.L) (p : Int) (w : World) (h : Lock w lb hb v l) (hok : Lk.LOk l) (hp : Lk.isP p) (hv : v.ownBlock ≠ some lb) (hv2 : v.ownBlock ≠ some hb) (hn : lb ≠ hb) :
    Calls Try.prog 40 #[.pointer (some ⟨lb, 0, none⟩), .int .i64 p] w fun e w' => e = .returned (.tuple #[]) ∧ Lock w' lb hb v { l with free := l.free + 1, held := Lk.less l.held p } ∧ Fr (fun x => x = lb ∨ x = hb) w w' := by
  have hb' := h.blk
  have c1 : w.cell? ⟨lb, 1, none⟩ = some (.int .i64 l.free) := hb'.cell 1 (by omega)
  have c2 : w.cell? ⟨lb, 2, none⟩ = some (.map (some hb)) := hb'.cell 2 (by omega)
  have z1 := hb'.fz 1
  have hlt := hb'.lt
  have hf0 := hok.f0
  have hf16 := hok.free_le
  have hg0 := hok.held_0 p
  have hg16 := hok.held_le p
  have hM := Lib.hid ((h.map.set_other (b' := lb) (o := 1) (fun e => hn e.symm) (.int .i64 (l.free + 1))))
  have hlen := hok.held_len
  have hwp := isP_wf hp
  have hwc : (Lit.int .i64 (Lk.kget l.held p - 1)).wf = true := wf64 (by omega) (by omega)
  have hml := maxLen_big
  have HB := Lib.hid h
  have HN := Lib.hid hv; have HN2 := Lib.hid hv2
  have ew : IntKind.i64.wrap (Lk.kget l.held p - 1) = Lk.kget l.held p - 1 := IntWalk.i64_in _ (by omega)
  have ew2 : IntKind.i64.wrap (l.free + 1) = l.free + 1 := IntWalk.i64_in _ (by omega)
  clear h hb' hv hv2
  have HB1 := Lib.hid (HB.out.blk.set (by omega : 1 < 4) (.int .i64 (l.free + 1)))
  have eq1 : Lk.kget (Lk.kput p (Lk.kget l.held p - 1) l.held) p = Lk.kget l.held p - 1 := by rw [Lk.kget_put, if_pos rfl]
  by_cases h0 : Lk.kget l.held p - 1 = 0
  · replace eq1 := eq1.trans h0
    have H0 := Lib.hid h0
    clear h0
    go_enter Try.func40, Try.ntmps40
    go_wp2_with (first
      | (at_lookup; have _t := z1; refine wpList_get _ rfl _ _ rfl hb _ p rfl hM.out rfl hwp ?_)
      | (at_mapUpdate; have _t := z1; refine wpList_put _ rfl _ _ _ rfl hb _ p (Lk.kget l.held p - 1) rfl hM.out rfl rfl hwp hwc (by omega) ?_; intro w1 hM1 hT1; have hB2 := HB1.out.turned hT1 hn; have c12 : w1.cell? ⟨lb, 2, none⟩ = some (.map (some hb)) := (by rw [hB2.cell 2 (by omega)]; simp [upd, lG]); have hlt1 : lb < w1.heap.size := hB2.lt; have HL2 := Lib.hid ((HB.out.line.set_other (b' := lb) (o := 1) HN.out (.int .i64 (l.free + 1))).turned hT1 HN2.out); have HF2 : Hid (Fr (fun x => x = lb ∨ x = hb) w w1) := Lib.hid (Fr.map (Fr.set (Fr.refl _ _) (.inl (.inl rfl)) 1 (.int .i64 (l.free + 1))) (.inl (.inr rfl)) hT1); have HM1 := Lib.hid hM1; have HB2 := Lib.hid hB2; clear hT1 hM1 hB2 c1 z1)
      | (at_lookup; refine wpList_get _ rfl _ _ rfl hb _ p rfl HM1.out rfl hwp ?_; rw [eq1])
      | (at_delete; refine wpList_del _ rfl _ _ rfl hb _ p rfl HM1.out rfl hwp ?_; intro w2 hM2 hT2))
    go_end0
    refine ⟨rfl, ⟨(HB2.out.turned hT2 hn).ext fun o ho => ?_, ?_, HL2.out.turned hT2 HN2.out⟩, HF2.out.map (.inl (.inr rfl)) hT2⟩
    · have : o = 0 ∨ o = 1 ∨ o = 2 ∨ o = 3 := by omega
      rcases this with rfl | rfl | rfl | rfl <;> simp [upd, lG]
    · rw [Lk.del_put] at hM2
      simp only [Lk.less, H0.out, if_true]
      exact hM2
  · go_enter Try.func40, Try.ntmps40
    go_wp2_with (first
      | (at_lookup; have _t := z1; refine wpList_get _ rfl _ _ rfl hb _ p rfl hM.out rfl hwp ?_)
      | (at_mapUpdate; have _t := z1; refine wpList_put _ rfl _ _ _ rfl hb _ p (Lk.kget l.held p - 1) rfl hM.out rfl rfl hwp hwc (by omega) ?_; intro w1 hM1 hT1; have hB2 := HB1.out.turned hT1 hn; have c12 : w1.cell? ⟨lb, 2, none⟩ = some (.map (some hb)) := (by rw [hB2.cell 2 (by omega)]; simp [upd, lG]); have hlt1 : lb < w1.heap.size := hB2.lt; have HL2 := Lib.hid ((HB.out.line.set_other (b' := lb) (o := 1) HN.out (.int .i64 (l.free + 1))).turned hT1 HN2.out); have HF2 : Hid (Fr (fun x => x = lb ∨ x = hb) w w1) := Lib.hid (Fr.map (Fr.set (Fr.refl _ _) (.inl (.inl rfl)) 1 (.int .i64 (l.free + 1))) (.inl (.inr rfl)) hT1); have HM1 := Lib.hid hM1; have HB2 := Lib.hid hB2; clear hT1 hM1 hB2 c1 z1)
      | (at_lookup; refine wpList_get _ rfl _ _ rfl hb _ p rfl HM1.out rfl hwp ?_; rw [eq1]))
    go_end0
    refine ⟨rfl, ⟨HB2.out.ext fun o ho => ?_, ?_, HL2.out⟩, HF2.out⟩
    · have : o = 0 ∨ o = 1 ∨ o = 2 ∨ o = 3 := by omega
      rcases this with rfl | rfl | rfl | rfl <;> simp [upd, lG]
    · simp only [Lk.less, h0, if_false]
      exact HM1.out

def passPost (w : World) (lb hb : Nat) (v : Value) (l : Lk.L) (e : Ending) (w' : World) : Prop :=
  match l.wait with
  | [] => e = .returned (.int .i64 0) ∧ Below w.heap.size w w'
  | q :: r => e = .returned (.int .i64 q) ∧ (∃ v', v'.ownBlock = v.ownBlock ∧ Lock w' lb hb v' { l with free := l.free - 1, held := Lk.kput q (Lk.kget l.held q + 1) l.held, wait := r }) ∧ Fr (fun x => x = lb ∨ x = hb) w w'

theorem Line.tail {W : World} {g off n cap : Nat} {q : Int} {r : List Int} (h : Line W (.slice (some ⟨g, off, none⟩) n cap) (q :: r)) : ∃ o, (if cap = 1 then some (⟨g, off, none⟩ : Addr) else some ⟨g, off + 1, none⟩) = some ⟨g, o, none⟩ ∧ Line W (.slice (some ⟨g, o, none⟩) (n - 1) (cap - 1)) r := by
  rcases h with ⟨e, _⟩ | ⟨g', off', cap', cur, e, h1, h2, hg, h3, h4⟩
  · cases e
  · cases e
    simp only [List.length_cons] at h1
    by_cases hc : cap = 1
    · refine ⟨off, by simp [hc], .inr ⟨g, off, _, cur, rfl, by omega, by omega, hg, by omega, fun i x hx => ?_⟩⟩
      have : i < r.length := (List.getElem?_eq_some_iff.1 hx).1
      omega
    · refine ⟨off + 1, by simp [hc], .inr ⟨g, off + 1, _, cur, rfl, by omega, by omega, hg, by omega, fun i x hx => ?_⟩⟩
      have := h4 (i + 1) x (by simpa using hx)
      rw [← this]; congr 1; omega

set_option maxRecDepth 100000 in
set_option maxHeartbeats 1000000 in
/-- passOn. -/
theorem passOn_any (lb hb : Nat) (v : Value) (l : Lk.L) (w : World) (h : Lock w lb hb v l) (f0 : 0 ≤ l.free) (f1 : l.free ≤ 100) (hh : ∀ p, 0 ≤ Lk.kget l.held p ∧ Lk.kget l.held p ≤ 100) (hps : ∀ p ∈ l.wait, Lk.isP p) (hwl : l.wait.length ≤ 2000000) (hlen : l.held.length ≤ 100) (hv : v.ownBlock ≠ some lb) (hv2 : v.ownBlock ≠ some hb) (hn : lb ≠ hb) :
    Calls Try.prog 41 #[.pointer (some ⟨lb, 0, none⟩)] w (passPost w lb hb v l) := by
  unfold passPost
  have hb' := h.blk
  have c1 : w.cell? ⟨lb, 1, none⟩ = some (.int .i64 l.free) := hb'.cell 1 (by omega)
  have c2 : w.cell? ⟨lb, 2, none⟩ = some (.map (some hb)) := hb'.cell 2 (by omega)
  have c3 : w.cell? ⟨lb, 3, none⟩ = some v := hb'.cell 3 (by omega)
  have z1 := hb'.fz 1
  have z3 := hb'.fz 3
  have hlt := hb'.lt
  have hml := maxLen_big
  have HB := Lib.hid h
  have HN := Lib.hid hv; have HN2 := Lib.hid hv2
  have hline := h.line
  clear h hb' hv hv2
  cases hw : l.wait with
  | nil =>
    rw [hw] at hline
    obtain ⟨p, cap, rfl, -⟩ := hline.form
    simp only
    clear hline
    go_enter Try.func41, Try.ntmps41
    go_wp2
    go_ret
    exact ⟨rfl, Below.refl _ _⟩
  | cons q r =>
    rw [hw] at hline hps hwl
    have hq := hps q (by simp)
    have hwq := isP_wf hq
    obtain ⟨p, cap, rfl, hlc, hcm, hp⟩ := hline.form
    obtain ⟨g, off, rfl, hg⟩ := hp (by simp)
    simp only
    have x0 : w.cell? ⟨g, off, none⟩ = some (.int .i64 q) := by simpa using hline.cell (i := 0) (x := q) (by simp)
    obtain ⟨o2, hov, hl2⟩ := hline.tail
    have hg0 := (hh q).1; have hg16 := (hh q).2
    have hwc : (Lit.int .i64 (Lk.kget l.held q + 1)).wf = true := wf64 (by omega) (by omega)
    have hgl : g ≠ lb := fun e => HN.out (by rw [e]; rfl)
    have hgh : g ≠ hb := fun e => HN2.out (by rw [e]; rfl)
    simp only [List.length_cons] at c3 hl2 hlc hwl
    simp only [Nat.add_sub_cancel] at hl2
    have HL2 := Lib.hid hl2
    have ew : IntKind.i64.wrap (Lk.kget l.held q + 1) = Lk.kget l.held q + 1 := IntWalk.i64_in _ (by omega)
    have ew2 : IntKind.i64.wrap (l.free - 1) = l.free - 1 := IntWalk.i64_in _ (by omega)
    clear hline hl2 hh hp
    have HM := Lib.hid ((HB.out.map.set_other (b' := lb) (o := 3) (fun e => hn e.symm) (.slice (some ⟨g, o2, none⟩) r.length (cap - 1))).set_other (b' := lb) (o := 1) (fun e => hn e.symm) (.int .i64 (l.free - 1)))
    have HB3 := Lib.hid ((HB.out.blk.set (by omega : 3 < 4) (.slice (some ⟨g, o2, none⟩) r.length (cap - 1))).set (by omega : 1 < 4) (.int .i64 (l.free - 1)))
    have HNg : Hid ((Value.slice (some ⟨g, o2, none⟩) r.length (cap - 1)).ownBlock ≠ some lb) := Lib.hid HN.out
    have HNg2 : Hid ((Value.slice (some ⟨g, o2, none⟩) r.length (cap - 1)).ownBlock ≠ some hb) := Lib.hid HN2.out
    go_enter Try.func41, Try.ntmps41
    go_wp2_with (first
      | (at_lookup; refine wpList_get _ rfl _ _ rfl hb _ q rfl HM.out rfl hwq ?_)
      | (at_mapUpdate; refine wpList_put _ rfl _ _ _ rfl hb _ q (Lk.kget l.held q + 1) rfl HM.out rfl rfl hwq hwc (by omega) ?_; intro w1 hM1 hT1; have HB4 := Lib.hid (HB3.out.turned hT1 hn); have HL3 := Lib.hid ((HL2.out.set_other (b' := lb) (o := 3) HNg.out (.slice (some ⟨g, o2, none⟩) r.length (cap - 1))).set_other (b' := lb) (o := 1) HNg.out (.int .i64 (l.free - 1))); have HL4 := Lib.hid (HL3.out.turned hT1 HNg2.out); have HF2 : Hid (Fr (fun x => x = lb ∨ x = hb) w w1) := Lib.hid (Fr.map (Fr.set (Fr.set (Fr.refl _ _) (.inl (.inl rfl)) 3 (.slice (some ⟨g, o2, none⟩) r.length (cap - 1))) (.inl (.inl rfl)) 1 (.int .i64 (l.free - 1))) (.inl (.inr rfl)) hT1); have HM1 := Lib.hid hM1; clear hT1 hM1))
    go_ret
    refine ⟨rfl, ⟨.slice (some ⟨g, o2, none⟩) r.length (cap - 1), rfl, HB4.out.ext fun o ho => ?_, HM1.out, HL4.out⟩, HF2.out⟩
    have : o = 0 ∨ o = 1 ∨ o = 2 ∨ o = 3 := by omega
    rcases this with rfl | rfl | rfl | rfl <;> simp [upd, lG]
end Go.Proofs.Ytpkldcnkadfhgaa
