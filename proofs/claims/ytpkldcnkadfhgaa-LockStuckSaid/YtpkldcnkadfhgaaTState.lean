/- What State does. -/
import Derived.Test.YtpkldcnkadfhgaaState
namespace Go.Proofs.Ytpkldcnkadfhgaa
open Go.RowKit

def tsOk (w : World) (t : Lk.T) (k : Int) (e : Ending) (w' : World) : Prop :=
  ∃ (i : Nat) (l : Lk.L) (hv qv : Value), k = (i : Int) + 1 ∧ t.ls[i]? = some l ∧ e = .returned (.tuple #[stateV l.tot l.free hv qv, .int .i64 0]) ∧ HRow w' w.heap.size hv l.held ∧ Line w' qv l.wait ∧ (∀ k, qv.ownBlock = some k → w.heap.size ≤ k) ∧ Below w.heap.size w w'
def tsPost (w : World) (t : Lk.T) (k : Int) (e : Ending) (w' : World) : Prop :=
  if 1 ≤ k ∧ k ≤ t.ls.length then tsOk w t k e w' else e = .returned (.tuple #[stateV 0 0 noSl noSl, .int .i64 6]) ∧ Below w.heap.size w w'

theorem HRow.fr {W W' : World} {b : Nat} {v : Value} {l : Lk.KV} (h : HRow W b v l) {S : Nat → Prop} (hf : Fr S W W') (hn : ∀ k, v.ownBlock = some k → ¬ S k) : HRow W' b v l := owns_fr h hf hn
theorem HRow.below {W W' : World} {b : Nat} {v : Value} {l : Lk.KV} (h : HRow W b v l) (hb : Below W.heap.size W W') : HRow W' b v l := h.fr (S := none_) (Fr.of_below hb) (fun _ _ hn => hn)

set_option maxRecDepth 100000 in
set_option maxHeartbeats 2000000 in
theorem tstate_any (bl : Blocks) (tb : Nat) (t : Lk.T) (k : Int) (w : World) (h : Tab w bl tb t) : Calls Try.prog 17 #[.pointer (some ⟨tb, 0, none⟩), .int .i64 k] w (tsPost w t k) := by
  have HLk : Hid (∀ W, Below w.heap.size w W → Calls Try.prog 42 #[.pointer (some ⟨tb, 0, none⟩), .int .i64 k] W (still W (.bool (decide (1 ≤ k ∧ k ≤ t.ls.length))))) := Lib.hid fun W hW => hasLock_any bl tb t k W (h.below hW)
  unfold still at HLk
  unfold tsPost
  have HT := Lib.hid h
  have HRb := Lib.hid (Blk.new w #[.int .i64 0, .int .i64 0, noSl, noSl] 44)
  clear h
  by_cases hk : 1 ≤ k ∧ k ≤ t.ls.length
  · simp only [if_pos hk]
    rw [show decide (1 ≤ k ∧ k ≤ t.ls.length) = true by simpa using hk] at HLk
    obtain ⟨hk1, hk2⟩ := hk
    obtain ⟨i, rfl⟩ : ∃ i : Nat, k = (i : Int) + 1 := ⟨(k - 1).toNat, by omega⟩
    have hi : i < t.ls.length := by omega
    obtain ⟨l, hl⟩ : ∃ l, t.ls[i]? = some l := ⟨_, List.getElem?_eq_getElem hi⟩
    have hi16 : i < 16 := by have := HT.out.ok.n16; omega
    have ei1 : IntKind.i64.wrap ((i : Int) + 1 - 1) = (i : Int) := by rw [IntWalk.i64_in _ (by omega)]; omega
    have ei2 : ((i : Int)).toNat = i := by omega
    have ei3 : IntKind.i64.wrap (i : Int) = (i : Int) := IntWalk.i64_in _ (by omega)
    have ei4 : (i : Int) + 1 - 1 = (i : Int) := by omega
    have ei0 : (0 : Int) ≤ (i : Int) := by omega
    go_enter Try.func17, Try.ntmps17
    go_wp2_with fail
    refine (HLk.out _ (one _ _)).mono ?_
    rintro e w2 ⟨rfl, hb⟩
    have HB2 := Lib.hid ((one w (.cells #[.int .i64 0, .int .i64 0, noSl, noSl] 44)).trans (hb.mono (by simp)))
    have HR2 := Lib.hid (HRb.out.below hb (by simp))
    clear hb HLk HRb
    obtain ⟨⟨lv, wv, ls, hR0⟩, hok⟩ := HT.out
    have hR := hR0.below HB2.out
    obtain ⟨q, cap, rfl, hcap, hcm, hq⟩ := hR.form
    obtain ⟨g, rfl, hg, hgc⟩ := hq (by have := hR.len; omega)
    obtain ⟨lb, hb, e3, els, e4, e5, hK⟩ := hR.lock i l hl
    have hlen := hR.len
    have c0 : w2.cell? ⟨tb, 0, none⟩ = some (.slice (some ⟨g, 0, none⟩) ls.length cap) := hR.blk.cell 0 (by omega)
    have cg := hgc i lb els
    have htb := hR.lt _ _ hR.hT
    have hlo := hok.ok l (List.mem_of_getElem? hl)
    have hlt2 : (i : Int) < (ls.length : Int) := by omega
    have ST := Lib.hid (state_any lb hb (wv i) l w2 hK hlo.wait_len hlo.asc hlo.held_len (fun p hp => isP_wf (hlo.pos p hp).1))
    unfold stPost at ST
    clear hR0 hR hK hgc hq hcap hok hlo
    go_wp2_with fail
    refine ST.out.mono ?_
    rintro e w3 ⟨hv, qv, rfl, hH, hL, hN, hb3⟩
    have hR3 := HR2.out.below hb3 (by have := HR2.out.lt; exact this)
    have r0 := hR3.cell 0 (by simp)
    have r1 := hR3.cell 1 (by simp)
    have r2 := hR3.cell 2 (by simp)
    have r3 := hR3.cell 3 (by simp)
    have z0 := hR3.fz 0
    have z1 := hR3.fz 1
    have z2 := hR3.fz 2
    have z3 := hR3.fz 3
    have hrl := hR3.lt
    have hs2 := HR2.out.lt
    obtain ⟨ph, ch, rfl⟩ := owns_form hH
    obtain ⟨pq, cq, e', -⟩ := hL.form
    obtain ⟨nq, hnq⟩ : ∃ nq, nq = l.wait.length := ⟨_, rfl⟩
    obtain ⟨nh, hnh⟩ : ∃ nh, nh = l.held.length := ⟨_, rfl⟩
    rw [← hnq] at e'
    subst e'
    rw [← hnh] at hH ⊢
    have HH := Lib.hid hH; have HL := Lib.hid hL; have HN := Lib.hid hN; have HB3 := Lib.hid hb3
    clear hH hL hN hb3 hR3 ST hnq hnh
    go_wp2
    refine bodyPost_ret (v := .tuple #[stateV l.tot l.free (.slice ph nh ch) (.slice pq nq cq), .int .i64 0]) (by simp [results, Try.results17, go_sem, *]) rfl ?_
    have FR := Fr.set (S := fun x => x = w.heap.size) (Fr.set (S := fun x => x = w.heap.size) (Fr.set (S := fun x => x = w.heap.size) (Fr.set (S := fun x => x = w.heap.size) (Fr.refl (fun x => x = w.heap.size) w3) (.inl rfl) 0 (.int .i64 l.tot)) (.inl rfl) 1 (.int .i64 l.free)) (.inl rfl) 2 (.slice ph nh ch)) (.inl rfl) 3 (.slice pq nq cq)
    refine ⟨i, l, .slice ph nh ch, .slice pq nq cq, rfl, hl, rfl, ?_, HL.out.fr FR fun k e e' => by have := HN.out k e; omega, fun k e => by have := HN.out k e; omega, (HB2.out.trans (HB3.out.mono HB2.out.size)).trans (FR.below (fun x e => by omega) (by omega))⟩
    exact owns_base (HH.out.fr FR fun k e e' => by have := (HH.out.lt k e).1; omega) (by omega)
  · simp only [if_neg hk]
    rw [show decide (1 ≤ k ∧ k ≤ t.ls.length) = false by simpa using hk] at HLk
    clear hk
    go_enter Try.func17, Try.ntmps17
    go_wp2_with fail
    refine (HLk.out _ (one _ _)).mono ?_
    rintro e w2 ⟨rfl, hb⟩
    have HB2 := Lib.hid ((one w (.cells #[.int .i64 0, .int .i64 0, noSl, noSl] 44)).trans (hb.mono (by simp)))
    have hR3 := HRb.out.below hb (by simp)
    have r0 := hR3.cell 0 (by simp)
    have r1 := hR3.cell 1 (by simp)
    have r2 := hR3.cell 2 (by simp)
    have r3 := hR3.cell 3 (by simp)
    have z0 := hR3.fz 0
    have z1 := hR3.fz 1
    have z2 := hR3.fz 2
    have z3 := hR3.fz 3
    have hrl := hR3.lt
    clear hb HLk HRb hR3
    go_wp2
    refine bodyPost_ret (v := .tuple #[stateV 0 0 noSl noSl, .int .i64 6]) (by simp [results, Try.results17, go_sem, *]) rfl ?_
    exact ⟨rfl, (((HB2.out.setCell (by simp) _).setCell (by simp) _).setCell (by simp) _).setCell (by simp) _⟩
end Go.Proofs.Ytpkldcnkadfhgaa
