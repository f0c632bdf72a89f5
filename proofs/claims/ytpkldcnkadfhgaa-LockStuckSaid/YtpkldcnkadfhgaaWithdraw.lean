/- What Withdraw does. -/
import Derived.Test.YtpkldcnkadfhgaaLib1
import Derived.Test.YtpkldcnkadfhgaaDefer1
import Derived.StillTailTactics
namespace Go.Proofs.Ytpkldcnkadfhgaa
open Go.RowKit

theorem idx_spec : ∀ (L : List Int) (p : Int), p ∈ L → ∃ k, k < L.length ∧ L.getD k 0 = p ∧ (∀ j, j < k → L.getD j 0 ≠ p) ∧ L.eraseIdx k = L.erase p
  | [], _, h => by simp at h
  | a :: r, p, h => by
    by_cases ha : a = p
    · subst ha
      exact ⟨0, by simp, by simp, fun j hj => by omega, by simp⟩
    · have hr : p ∈ r := by
        rcases List.mem_cons.1 h with e | e
        · exact absurd e.symm ha
        · exact e
      obtain ⟨k, h1, h2, h3, h4⟩ := idx_spec r p hr
      refine ⟨k + 1, by simpa using h1, by simpa using h2, fun j hj => ?_, ?_⟩
      · cases j with
        | zero => simpa using ha
        | succ j => simpa using h3 j (by omega)
      · rw [List.eraseIdx_cons_succ, h4, List.erase_cons_tail (by simpa using ha)]
theorem idxOf_nat {L : List Int} {p : Int} {k : Nat} (h1 : k < L.length) (h2 : L.getD k 0 = p) (h3 : ∀ j, j < k → L.getD j 0 ≠ p) : Lib.idxOf L p = k := by
  have := Lib.idxOf_hit L L.length k p h1 (Nat.le_refl _) h2 h3
  rwa [List.take_length] at this

set_option maxRecDepth 100000 in
set_option maxHeartbeats 1000000 in
theorem forget_any (lb hb : Nat) (v : Value) (l : Lk.L) (p : Int) (w : World) (h : Lock w lb hb v l) (hm : p ∈ l.wait) (hwl : l.wait.length ≤ 2000000) (hv : v.ownBlock ≠ some lb) (hv2 : v.ownBlock ≠ some hb) (hn : lb ≠ hb) :
    Calls Try.prog 44 #[.pointer (some ⟨lb, 0, none⟩), .int .i64 p] w fun e w' => e = .returned (.tuple #[]) ∧ ∃ v', v'.ownBlock = v.ownBlock ∧ Lock w' lb hb v' { l with wait := l.wait.erase p } ∧ Fr (fun x => x = lb ∨ v.ownBlock = some x) w w' := by
  obtain ⟨k, h1, h2, h3, h4⟩ := idx_spec l.wait p hm
  have IX := Lib.hid (index_line w v l.wait p h.line hwl)
  rw [idxOf_nat h1 h2 h3] at IX
  have DL := Lib.hid (delete_line w v l.wait k h.line h1 hwl)
  rw [h4] at DL
  have hk : k ≤ 2000000 := by omega
  have ek : IntKind.i64.wrap ((k : Int) + 1) = (k : Int) + 1 := IntWalk.i64_in _ (by omega)
  have ek2 : ((k + 1 : Nat) : Int) = (k : Int) + 1 := by omega
  rw [ek2] at DL
  have c3 : w.cell? ⟨lb, 3, none⟩ = some v := h.blk.cell 3 (by omega)
  obtain ⟨q, cap, rfl, -⟩ := h.line.form
  have hlt := h.blk.lt
  have HB := Lib.hid h
  have HV := Lib.hid hv; have HV2 := Lib.hid hv2
  obtain ⟨n0, hn0⟩ : ∃ n0, n0 = l.wait.length := ⟨_, rfl⟩
  rw [← hn0] at IX DL c3 HB HV HV2
  rw [← hn0]
  clear h h1 h2 h3 h4 hm hv hv2 hwl ek2 hn0
  go_enter Try.func44, Try.ntmps44
  go_wp2_with fail
  refine IX.out.mono ?_
  rintro e w1 ⟨rfl, rfl⟩
  go_wp2_with fail
  refine DL.out.mono ?_
  rintro e w2 ⟨v', rfl, ho, hL2, hF2⟩
  have hB2 := HB.out.blk.fr hF2 HV.out
  have c32 : w2.cell? ⟨lb, 3, none⟩ = some (.slice q n0 cap) := hB2.cell 3 (by omega)
  have z32 := hB2.fz 3
  have hlt2 := hB2.lt
  obtain ⟨q2, cap2, e2, -⟩ := hL2.form
  obtain ⟨n2, hn2⟩ : ∃ n2, n2 = (l.wait.erase p).length := ⟨_, rfl⟩
  rw [← hn2] at e2
  subst e2
  have HL2 := Lib.hid hL2; have HF2 := Lib.hid hF2; have HO := Lib.hid ho; have HB2 := Lib.hid hB2
  have HM2 := Lib.hid (HB.out.map.fr hF2 HV2.out)
  clear hL2 hF2 ho hB2 IX DL hn2
  go_wp2
  go_end0
  refine ⟨rfl, .slice q2 n2 cap2, HO.out, ⟨(HB2.out.set (by omega : 3 < 4) _).ext fun o ho => ?_, HM2.out.set_other (fun e => hn e.symm) _, HL2.out.set_other (by rw [HO.out]; exact HV.out) _⟩, Fr.set (HF2.out.widen fun x hx _ => .inr hx) (.inl (.inl rfl)) 3 _⟩
  have : o = 0 ∨ o = 1 ∨ o = 2 ∨ o = 3 := by omega
  rcases this with rfl | rfl | rfl | rfl <;> simp [upd, lG]

namespace Lk
theorem mem_erase_of {L : List Int} {p q : Int} (hn : L.Nodup) : q ∈ L.erase p ↔ q ≠ p ∧ q ∈ L := hn.mem_erase_iff
theorem TOk.withdraw {t : T} (h : TOk t) {i : Nat} {l : L} (hl : t.ls[i]? = some l) {p : Int} (hm : p ∈ l.wait) : TOk (withdraw t i l p) := by
  have hlo := h.ok l (List.mem_of_getElem? hl)
  have hi : i < t.ls.length := (List.getElem?_eq_some_iff.1 hl).1
  unfold Lk.withdraw
  refine ⟨by simpa using h.n16, ?_, h.asc.del _, ?_, ?_⟩
  · intro x hx
    obtain ⟨j, hj⟩ := List.getElem?_of_mem hx
    rcases getElem?_set_cases hj with ⟨-, rfl, -⟩ | ⟨-, hj⟩
    · refine ⟨hlo.t1, hlo.t16, hlo.f0, hlo.bal, hlo.asc, hlo.pos, hlo.nd.erase p, fun q hq => hlo.ps q (List.mem_of_mem_erase hq), fun hf => ?_⟩
      have := hlo.wake hf
      rw [this] at hm; simp at hm
    · exact h.ok x (List.mem_of_getElem? hj)
  · intro j x q hj hq
    have key : ∀ (y : L), t.ls[j]? = some y → q ∈ y.wait → (j = i → q ≠ p) → (q, (j : Int) + 1) ∈ kdel p t.waits := fun y hy hqy hne => by
      refine List.mem_filter.2 ⟨h.w1 j y q hy hqy, ?_⟩
      have : q ≠ p := by
        by_cases hji : j = i
        · exact hne hji
        · intro e
          subst e
          have g1 := kget_of_mem h.asc (h.w1 j y q hy hqy)
          have g2 := kget_of_mem h.asc (h.w1 i l q hl hm)
          omega
      simpa using this
    rcases getElem?_set_cases hj with ⟨rfl, rfl, -⟩ | ⟨hne, hj⟩
    · have := (mem_erase_of hlo.nd).1 hq
      exact key l hl this.2 fun _ => this.1
    · exact key x hj hq fun e => absurd e hne
  · intro q v hq
    obtain ⟨hq1, hq2⟩ := mem_del hq
    obtain ⟨j, x, hv, hj, hqx⟩ := h.w2 q v hq1
    by_cases hji : j = i
    · subst hji
      rw [hl] at hj; cases hj
      exact ⟨j, _, hv, List.getElem?_set_self hi, (mem_erase_of hlo.nd).2 ⟨hq2, hqx⟩⟩
    · exact ⟨j, x, hv, by simpa [List.getElem?_set, Ne.symm hji] using hj, hqx⟩
end Lk

def wdIn (w : World) (bl : Blocks) (tb : Nat) (t : Lk.T) (p : Int) (w' : World) : Prop := ∃ (i : Nat) (l : Lk.L), t.ls[i]? = some l ∧ p ∈ l.wait ∧ Gone w bl tb (Lk.withdraw t i l p) w'
def wdPost (w : World) (bl : Blocks) (tb : Nat) (t : Lk.T) (p : Int) (e : Ending) (w' : World) : Prop :=
  e = .returned (.bool (Lk.khas t.waits p)) ∧ if Lk.khas t.waits p then wdIn w bl tb t p w' else Below w.heap.size w w'

set_option maxRecDepth 100000 in
set_option maxHeartbeats 2000000 in
theorem withdraw_any (bl : Blocks) (tb : Nat) (t : Lk.T) (p : Int) (w : World) (h : Tab w bl tb t) (hpw : (Lit.int .i64 p).wf = true) :
    Calls Try.prog 19 #[.pointer (some ⟨tb, 0, none⟩), .int .i64 p] w (wdPost w bl tb t p) := by
  have HW : Hid (∀ W, Below w.heap.size w W → Calls Try.prog 39 #[.pointer (some ⟨tb, 0, none⟩), .int .i64 p] W (still W (.bool (Lk.khas t.waits p)))) := Lib.hid fun W hW => isWaiting_any bl tb t p W (h.below hW) hpw
  unfold still at HW
  unfold wdPost
  cases hwt : Lk.khas t.waits p with
  | false =>
    rw [hwt] at HW
    clear h
    refine calls_of_wp_deferB Try.func19 rfl ?_
    simp only [Try.ntmps19, List.size_toArray, List.length_cons, List.length_nil, Nat.reduceAdd, Nat.reduceSub, Array.replicate_succ, Array.replicate_zero, List.push_toArray, List.append_toArray, List.nil_append, List.cons_append, Bool.false_eq_true, if_false]
    go_wp2_with fail
    refine (HW.out _ (Below.refl _ _)).mono ?_
    rintro e w1 ⟨rfl, hb⟩
    have HB := Lib.hid hb
    clear hb
    go_wp2
    exact .inl ⟨rfl, _, results_tmp rfl _ _ _, rfl, HB.out⟩
  | true =>
    rw [hwt] at HW
    simp only [if_true]
    obtain ⟨hv0⟩ : True := trivial
    have hmem := Lk.kget_mem hwt
    obtain ⟨i, l, hv, hl, hm⟩ := h.ok.w2 p _ hmem
    have HT := Lib.hid h
    clear h hmem
    refine calls_of_wp_deferB Try.func19 rfl ?_
    simp only [Try.ntmps19, List.size_toArray, List.length_cons, List.length_nil, Nat.reduceAdd, Nat.reduceSub, Array.replicate_succ, Array.replicate_zero, List.push_toArray, List.append_toArray, List.nil_append, List.cons_append]
    go_wp2_with fail
    refine (HW.out _ (Below.refl _ _)).mono ?_
    rintro e w2 ⟨rfl, hb⟩
    have HB2 := Lib.hid hb
    clear hb HW
    obtain ⟨⟨lv, wv, ls, hR0⟩, hok⟩ := HT.out
    have hR := hR0.below HB2.out
    obtain ⟨q, cap, rfl, hcap, hcm, hq⟩ := hR.form
    have hi : i < t.ls.length := (List.getElem?_eq_some_iff.1 hl).1
    have hi16 : i < 16 := by have := hok.n16; omega
    obtain ⟨g, rfl, hg, hgc⟩ := hq (by have := hR.len; omega)
    obtain ⟨lb, hb, e3, els, e4, e5, hK⟩ := hR.lock i l hl
    obtain ⟨m, hmm⟩ : ∃ m, bl (2, 0) = some m := by
      cases hc : bl (2, 0) with
      | some m => exact ⟨m, rfl⟩
      | none => rw [hR.waits0 hc] at hwt; cases hwt
    have hlen := hR.len
    have c0 : w2.cell? ⟨tb, 0, none⟩ = some (.slice (some ⟨g, 0, none⟩) ls.length cap) := hR.blk.cell 0 (by omega)
    have c1 : w2.cell? ⟨tb, 1, none⟩ = some (.map (bl (2, 0))) := hR.blk.cell 1 (by omega)
    rw [hmm] at c1
    have cg := hgc i lb els
    have htb := hR.lt _ _ hR.hT
    have hlb := hK.blk.lt
    have hlt2 : (i : Int) < (ls.length : Int) := by omega
    have ei1 : IntKind.i64.wrap ((i : Int) + 1 - 1) = (i : Int) := by rw [IntWalk.i64_in _ (by omega)]; omega
    have ei2 : ((i : Int)).toNat = i := by omega
    have ei3 : IntKind.i64.wrap (i : Int) = (i : Int) := IntWalk.i64_in _ (by omega)
    have ei4 : (i : Int) + 1 - 1 = (i : Int) := by omega
    have ei0 : (0 : Int) ≤ (i : Int) := by omega
    have HOK := Lib.hid hok
    have HR := Lib.hid hR
    have HM := Lib.hid (hR.waits m hmm)
    have hlo := hok.ok l (List.mem_of_getElem? hl)
    have FG : Hid (∀ W, Below w2.heap.size w2 W → Calls Try.prog 44 #[.pointer (some ⟨lb, 0, none⟩), .int .i64 p] W fun e w' => e = .returned (.tuple #[]) ∧ ∃ v', v'.ownBlock = (wv i).ownBlock ∧ Lock w' lb hb v' { l with wait := l.wait.erase p } ∧ Fr (fun x => x = lb ∨ (wv i).ownBlock = some x) W w') := Lib.hid fun W hW =>
      forget_any lb hb (wv i) l p W (hK.fr (S := none_) (Fr.of_below hW) id id (fun _ _ => id)) hm (by have := hlo.wait_len; omega) (hR.nev e5 e3 (by simp)) (hR.nev e5 e4 (by simp)) (hR.ne e3 e4 (by simp))
    have HV := Lib.hid hv
    clear hR0 hR hK hgc hq hcap hok hlo hv
    have hlk : ∀ W : World, MapIs W m t.waits → (Instr.lookup 66 (.map (some m)) (.int .i64 p) false).run Try.prog W = .ok (.int .i64 ((i : Int) + 1)) W := fun W hW => by
      obtain ⟨c, hrun, hat, -⟩ := World.ownsMap.lookup_int hW K3 Try.underlying66 Try.underlying3 (Try.zeroValue3 W) (key_int hpw)
      rw [mapD_at] at hat
      cases hat
      rw [HV.out] at hrun
      exact hrun
    have hl1 := hlk w2 HM.out
    have hl2 := hlk w2.drew HM.out
    clear hlk
    go_wp2_with fail
    go_still_tail 14, (by kernel_rfl)
    change wpList _ _ _ _ _ w2.drew
    have FG2 := Lib.hid (FG.out w2.drew ⟨rfl, rfl, rfl, Nat.le_refl _, fun _ _ => rfl⟩)
    clear hl1 hl2 FG
    go_wp2_with fail
    refine FG2.out.mono ?_
    rintro e w3 ⟨rfl, v', ho, hL3, hF3⟩
    have hF3' : Fr (fun x => x = lb ∨ (wv i).ownBlock = some x) w2 w3 := ⟨hF3.os, hF3.tape, hF3.output, hF3.size, hF3.block⟩
    have hR3 := HR.out.turn hl e3 e4 (hF3'.widen fun x hx _ => hx.elim (fun h => .inl (h ▸ e3)) (fun h => .inr (.inr (e5 ▸ h)))) (.inl (ho.trans e5)) hL3
    have hm' : put5 bl (5, i) v'.ownBlock (2, 0) = some m := by rw [put5_other _ _ (by simp)]; exact hmm
    have hF : Fr (Fp bl) w w3 := (Fr.of_below HB2.out : Fr (Fp bl) w w2).thenL hF3' (fun x hx => .inl (hx.elim (fun h => ⟨_, h ▸ e3⟩) (fun h => ⟨_, e5 ▸ h⟩)))
    have HD : Hid (∃ w4, (invoke (.builtin .delete #[66, 3] 0 #[false, false]) #[.map (some m), .int .i64 p]).run Try.prog w3 = .ok (.value (.tuple #[])) w4 ∧ wdIn w bl tb t p w4) := Lib.hid (by
      obtain ⟨w4, h1, h2, h3⟩ := invoke_del (hR3.waits m hm') hpw 0 #[false, false]
      exact ⟨w4, h1, i, l, hl, hm, _, ⟨⟨_, _, _, hR3.turnWaits hm' h3 h2⟩, HOK.out.withdraw hl hm⟩, put5_keep (.inl (ho.trans e5)), hF.map (.inl ⟨_, hmm⟩) h3⟩)
    clear hF3 hF3' hR3 hF hL3 ho FG2
    go_wp2
    obtain ⟨w4, h1, h2⟩ := HD.out
    exact .inr ⟨_, _, _, _, _, _, w4, rfl, h1, _, results_tmp rfl _ _ _, rfl, h2⟩
end Go.Proofs.Ytpkldcnkadfhgaa
