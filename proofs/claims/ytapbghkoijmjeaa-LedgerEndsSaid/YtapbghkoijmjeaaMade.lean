/- Two ledgers side by side; what made does. -/
import Derived.Test.YtapbghkoijmjeaaCopy
import Derived.Test.YtapbghkoijmjeaaLawOnce
namespace Go.Proofs.Ytapbghkoijmjeaa
set_option linter.unusedVariables false
set_option linter.unusedSimpArgs false
open Go.RowKit Go.Shelf
def Ld.plays (t : Ld.T) (l : List Op) : Ld.T := l.foldl Ld.step t
theorem plays_succ {t : Ld.T} {l : List Op} {k : Nat} {o : Op} (h : l[k]? = some o) : Ld.plays t (l.take (k + 1)) = Ld.step (Ld.plays t (l.take k)) o := by
  unfold Ld.plays
  rw [take_snoc' h, List.foldl_append]
  rfl
/-- A ledger in memory of the call. -/
structure MdR (w wr : World) (b : Nat) (t : Ld.T) (own : Own) : Prop where
  ow : Ow w own b t wr
  inv : Ld.Inv t
theorem MdR.below {w wr w2 : World} {b : Nat} {t : Ld.T} {own : Own} (h : MdR w wr b t own) (hb : Below wr.heap.size wr w2) : MdR w w2 b t own := ⟨h.ow.below hb, h.inv⟩
theorem MdR.step {w wr w2 : World} {b : Nat} {t : Ld.T} {own : Own} (h : MdR w wr b t own) (o : Op) (hG : Gone wr own b (Ld.step t o) w2) : ∃ own', MdR w w2 b (Ld.step t o) own' ∧ (∀ k, k < wr.heap.size → own' k = own k) ∧ Fr (fun k => own k ≠ none) wr w2 := by
  obtain ⟨own', hO, hk, hF⟩ := h.ow.gone hG (h.inv.step o).ok
  exact ⟨own', ⟨hO, h.inv.step o⟩, hk, hF⟩
theorem MdR.fr {w wr w2 : World} {b : Nat} {t : Ld.T} {own : Own} {S : Nat → Prop} (h : MdR w wr b t own) (hF : Fr S wr w2) (hso : ∀ k, S k → own k = none) (hsw : ∀ k, S k → w.heap.size ≤ k) : MdR w w2 b t own := by
  obtain ⟨L, hL⟩ := h.ow.rep
  exact ⟨⟨⟨L, hL.fr hF hso⟩, h.ow.ok, h.ow.ge, h.ow.bel.trans (hF.below hsw h.ow.bel.size)⟩, h.inv⟩
/-- Two ledgers that share nothing. -/
structure Two (w wr : World) (b d : Nat) (t1 t2 : Ld.T) (own1 own2 : Own) : Prop where
  a : MdR w wr b t1 own1
  b : MdR w wr d t2 own2
  dis : ∀ k, own1 k ≠ none → own2 k = none
theorem Two.swap {w wr : World} {b d : Nat} {t1 t2 : Ld.T} {own1 own2 : Own} (h : Two w wr b d t1 t2 own1 own2) : Two w wr d b t2 t1 own2 own1 :=
  ⟨h.b, h.a, fun k hk => by
    cases e : own1 k with
    | none => rfl
    | some r => exact absurd (h.dis k (by rw [e]; simp)) hk⟩
theorem Two.below {w wr w2 : World} {b d : Nat} {t1 t2 : Ld.T} {own1 own2 : Own} (h : Two w wr b d t1 t2 own1 own2) (hb : Below wr.heap.size wr w2) : Two w w2 b d t1 t2 own1 own2 := ⟨h.a.below hb, h.b.below hb, h.dis⟩
theorem MdR.ge {w wr : World} {b : Nat} {t : Ld.T} {own : Own} (h : MdR w wr b t own) : ∀ k, own k ≠ none → w.heap.size ≤ k := fun k hk => by
  cases e : own k with
  | none => exact absurd e hk
  | some r => exact h.ow.ge k r e
theorem Two.step {w wr w2 : World} {b d : Nat} {t1 t2 : Ld.T} {own1 own2 : Own} (h : Two w wr b d t1 t2 own1 own2) (o : Op) (hG : Gone wr own2 d (Ld.step t2 o) w2) : ∃ own', Two w w2 b d t1 (Ld.step t2 o) own1 own' ∧ (∀ k, k < wr.heap.size → own' k = own2 k) ∧ Fr (fun k => own2 k ≠ none) wr w2 := by
  obtain ⟨own', hM, hk, hF⟩ := h.b.step o hG
  refine ⟨own', ⟨h.a.fr hF h.swap.dis h.b.ge, hM, fun k hk1 => ?_⟩, hk, hF⟩
  obtain ⟨L, hL⟩ := h.a.ow.rep
  have hlt : k < wr.heap.size := by
    cases e : own1 k with
    | none => exact absurd e hk1
    | some r => exact hL.lt k r e
  rw [hk k hlt]
  exact h.dis k hk1
theorem two_copy {w wr w2 : World} {b d : Nat} {t : Ld.T} {own own2 : Own} (h : MdR w wr b t own) (hR : ∃ L, Rep w2 own2 d L t) (hg : ∀ k r, own2 k = some r → wr.heap.size ≤ k) (hb : Below wr.heap.size wr w2) : Two w w2 b d t t own own2 := by
  obtain ⟨L, hL⟩ := h.ow.rep
  have h2 := h.below hb
  refine ⟨h2, ⟨⟨hR, h.ow.ok, fun k r e => Nat.le_trans h.ow.bel.size (hg k r e), h2.ow.bel⟩, h.inv⟩, fun k hk => ?_⟩
  cases e : own2 k with
  | none => rfl
  | some r =>
    have h1 := hg k r e
    cases e1 : own k with
    | none => exact absurd e1 hk
    | some r1 => have := hL.lt k r1 e1; omega
def madePost (w : World) (t : Ld.T) (e : Ending) (w' : World) : Prop := e = .returned (ptr w.heap.size) ∧ ∃ own, MdR w w' w.heap.size t own
set_option maxRecDepth 100000 in
set_option maxHeartbeats 4000000 in
theorem made_any (w : World) (p : Option Addr) (cap : Nat) (Lo : List Op) (hL : OpsIn w p cap Lo) : Calls Try.prog 27 #[.slice p Lo.length cap] w (madePost w (Ld.plays Ld.new (Lo.take (min Lo.length 100)))) := by
  have N := Lib.hid (new_any w)
  unfold newPost at N
  have HL := Lib.hid hL
  obtain ⟨n, hn⟩ : ∃ n, n = min Lo.length 100 := ⟨_, rfl⟩
  rw [← hn]
  have HN := Lib.hid hn
  have hn1 : (min (Lo.length : Int) 100) = (n : Int) := by omega
  have hcl := hL.le
  have hcm := hL.cap
  unfold maxLen at hcm
  obtain ⟨ln, hln⟩ : ∃ ln, ln = Lo.length := ⟨_, rfl⟩
  have HLN := Lib.hid hln
  rw [← hln] at hn1 hcl ⊢
  have hnl : n ≤ ln := by omega
  have hn100 : n ≤ 100 := by omega
  unfold madePost
  clear hL hn hln
  go_enter Try.func27, Try.ntmps27
  go_wp2_with fail
  refine N.out.mono ?_
  rintro e w1 ⟨rfl, hO1⟩
  have HS : Hid (MdR w w1 w.heap.size Ld.new (own0 w.heap.size)) := Lib.hid ⟨hO1, inv0⟩
  clear hO1 N
  go_wp2_with fail
  go_loopw [13] (fun i wr => ∃ (k : Nat) (own : Own), k ≤ n ∧ i = .int .i64 (k : Int) ∧ Hid (MdR w wr w.heap.size (Ld.plays Ld.new (Lo.take k)) own)) (fun i _ => n - (intOf i).toNat)
  case atStart => exact ⟨0, _, Nat.zero_le _, rfl, HS⟩
  case round =>
    obtain ⟨k, own, hk, rfl, HR⟩ := hrel
    clear HS
    by_cases hlt : k < n
    · obtain ⟨o, ho⟩ : ∃ o, Lo[k]? = some o := ⟨_, List.getElem?_eq_getElem (by have := HLN.out; omega)⟩
      obtain ⟨ab, ao, rfl, hab, c0, c1, c2⟩ := HL.out.cells ho HR.out.ow.bel
      have habr : ab < wr.heap.size := Nat.lt_of_lt_of_le hab HR.out.ow.bel.size
      have j1 : (k : Int) < (n : Int) := by omega
      have A : Hid (∀ W, Below wr.heap.size wr W → Calls Try.prog 24 #[ptr w.heap.size, opV o] W (runPost W own w.heap.size (Ld.step (Ld.plays Ld.new (Lo.take k)) o))) := Lib.hid fun W hW => by
        obtain ⟨L, hL⟩ := (HR.out.below hW).ow.rep
        exact run_any hL HR.out.inv.ok o
      unfold runPost opV at A
      have HPS := Lib.hid (plays_succ (t := Ld.new) ho)
      clear ho hab
      go_wp2_with fail
      refine (A.out _ (one _ _)).mono ?_
      rintro e w2 ⟨rfl, hG⟩
      obtain ⟨own2, hM2, -, -⟩ := HR.out.step o (Gone.from_ (one wr _) hG)
      rw [← HPS.out] at hM2
      have HM2 := Lib.hid hM2
      clear hG hM2 A
      go_wp2
      go_roundw
      case rel => exact ⟨k + 1, own2, by omega, by go_num, HM2⟩
      case measure => simp [intOf]; omega
    · obtain rfl : k = n := by omega
      go_wp2
      go_ret
      exact ⟨rfl, own, HR.out⟩
end Go.Proofs.Ytapbghkoijmjeaa
