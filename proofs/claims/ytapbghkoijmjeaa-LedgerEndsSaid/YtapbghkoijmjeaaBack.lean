/- slices.Backward over a list of positions. -/
import Derived.RangeFuncNested
import Derived.RangeFuncBound
import Derived.RangeFuncCalls
import Derived.RangeFuncLeaves
import Derived.Shelf.Abstract
import Derived.Shelf.RegionOpen
import Derived.WalkKit
import Derived.OwnWalkIn
import Derived.TacticsInMore
import Derived.LoopNIn
import Derived.LoopIn
import Derived.Test.YtapbghkoijmjeaaDel
namespace Go.Proofs.Ytapbghkoijmjeaa
set_option linter.unusedVariables false
set_option linter.unusedSimpArgs false
open Go.RowKit Go.Shelf

attribute [local go_sem] Oper.semAt_some

/-- A list of numbers lies at an address, below n₀. -/
def IntsAt (n₀ : Nat) (W : World) (p : Option Addr) (len : Nat) (q : Nat → Int) : Prop :=
  ∀ k, k < len → ∃ g off, p = some ⟨g, off, none⟩ ∧ g < n₀ ∧ W.cell? ⟨g, off + k, none⟩ = some (.int .i64 (q k))
theorem IntsAt.below {n₀ : Nat} {W W' : World} {p : Option Addr} {len : Nat} {q : Nat → Int} (h : IntsAt n₀ W p len q) (hb : Below n₀ W W') : IntsAt n₀ W' p len q := fun k hk => by
  obtain ⟨g, off, e, h1, h2⟩ := h k hk
  exact ⟨g, off, e, h1, (hb.cell (p := ⟨g, off + k, none⟩) h1).trans h2⟩
/-- What the rounds get: position and number, the last first. -/
def BackEnc {α : Type} (enc : α → Array Value) (q : Nat → Int) (xs : List α) : Prop := ∀ (k : Nat) (x : α), xs[k]? = some x → enc x = #[.int .i64 ((xs.length - 1 - k : Nat) : Int), .int .i64 (q (xs.length - 1 - k))]

set_option maxRecDepth 100000 in
set_option maxHeartbeats 2000000 in
theorem back1_in {α : Type} (enc : α → Array Value) (F : Fence) (n : Nat) (h93 : F.fn 73) (hro : F.round = none) (hn : 1 ≤ n) (l Bs n₀ : Nat) (xs : List α) (q : Nat → Int) (hxs : BackEnc enc q xs) (p : Option Addr) (cap : Nat) (hlen : xs.length ≤ 1000000) (hBs0 : Bs < n₀) (J Jx : List α → World → Prop)
    (hY : ∀ pre x W, J pre W → pre.length < xs.length → YieldAt F (n - 1) Try.prog l (enc x) W fun e W' =>
      (e = .returned (.bool true) ∧ J (pre ++ [x]) W' ∧ Below n₀ W W') ∨ (e = .returned (.bool false) ∧ Jx (pre ++ [x]) W'))
    (W : World) (hBs : W.cell? ⟨Bs, 0, none⟩ = some (.slice p xs.length cap)) (hL : IntsAt n₀ W p xs.length q) (h0 : J [] W) :
    CallsIn F n Try.prog 73 #[.func (.yield l) #[] #[], .pointer (some ⟨Bs, 0, none⟩)] W fun e W' => (∃ v, e = .returned v) ∧
      ((∃ ys, ys = xs ∧ J ys W') ∨ (∃ pre, pre <+: xs ∧ Jx pre W')) := by
  refine callsIn_of_wp Try.func73 rfl h93 ?_ hro
  simp only [Try.ntmps73, List.size_toArray, List.length_cons, List.length_nil, Nat.reduceAdd, Nat.reduceSub, Array.replicate_succ, Array.replicate_zero, List.push_toArray, List.append_toArray, List.nil_append, List.cons_append]
  obtain ⟨m, hm⟩ : ∃ m, m = xs.length := ⟨_, rfl⟩
  have HM := Lib.hid hm
  have HXS := Lib.hid hxs
  unfold BackEnc at HXS
  rw [← hm] at hBs hlen hY hL HXS
  clear hm hxs
  have e1 : IntKind.i64.wrap ((m : Int) - 1) = (m : Int) - 1 := IntWalk.i64_in _ (by omega)
  gi_wp2
  gi_loopw [3] (fun i wr => ∃ k : Nat, k ≤ m ∧ i = .int .i64 ((m : Int) - 1 - k) ∧ J (xs.take k) wr ∧ Below n₀ W wr)
    (fun i _ => (intOf i + 1).toNat)
  case atStart => exact ⟨0, Nat.zero_le _, by simp, h0, Below.refl _ _⟩
  case round =>
    obtain ⟨k, hk, rfl, hJs, hnx⟩ := hrel
    by_cases hlt : k < m
    · obtain ⟨j, hj⟩ : ∃ j : Nat, j + k + 1 = m := ⟨m - 1 - k, by omega⟩
      have ej : (m : Int) - 1 - k = (j : Int) := by omega
      obtain ⟨g, off, ep, hg, hc⟩ := (hL.below hnx) j (by omega)
      have hbx : wr.cell? ⟨Bs, 0, none⟩ = some (.slice p m cap) := (hnx.cell (p := ⟨Bs, 0, none⟩) hBs0).trans hBs
      rw [ep] at hbx
      rw [ej]
      obtain ⟨x, hx⟩ : ∃ x, xs[k]? = some x := ⟨_, List.getElem?_eq_getElem (by have := HM.out; omega)⟩
      obtain ⟨fn, tmps, assign, body, hy, hR⟩ := hY (xs.take k) x wr hJs (by rw [List.length_take]; omega)
      have HT : Hid (xs.take k ++ [x] = xs.take (k + 1)) := Lib.hid (by
        rw [List.take_succ_eq_append_getElem (by have := HM.out; omega)]
        have : xs[k]'(by have := HM.out; omega) = x := by rw [List.getElem?_eq_getElem (by have := HM.out; omega)] at hx; exact Option.some.inj hx
        rw [this])
      have he := HXS.out k x hx
      rw [show m - 1 - k = j by omega] at he
      rw [he] at hy
      have h3 : (j : Int) < (m : Int) := by omega
      have e5 : IntKind.i64.wrap ((j : Int) - 1) = (j : Int) - 1 := IntWalk.i64_in _ (by omega)
      have HNX := Lib.hid hnx
      clear hL h0 ep ej hnx he hx
      gi_wp2
      refine hR.mono ?_
      rintro e W3 (⟨rfl, hJ3, hk3⟩ | ⟨rfl, hJx3⟩)
      · rw [HT.out] at hJ3
        gi_wp2
        go_roundw
        case rel => exact ⟨k + 1, by omega, by first | (congr 1; done) | (congr 1; omega), hJ3, HNX.out.trans hk3⟩
        case measure => first | (simp [intOf]; done) | (simp [intOf]; omega)
      · rw [HT.out] at hJx3
        gi_wp2
        refine bodyPost_ret (results_none rfl _ _ _) rfl ?_
        exact ⟨⟨_, rfl⟩, .inr ⟨_, List.take_prefix _ _, hJx3⟩⟩
    · obtain rfl : k = m := by omega
      have e4 : (k : Int) - 1 - k = -1 := by omega
      rw [e4]
      rw [show xs.take k = xs by rw [HM.out, List.take_length]] at hJs
      gi_wp2
      go_end0
      exact ⟨⟨_, rfl⟩, .inl ⟨_, rfl, hJs⟩⟩

/-- slices.Backward itself. -/
theorem back_in (F : Fence) (n : Nat) (h54 : F.fn 60) (hro : F.round = none) (p : Option Addr) (len cap : Nat) (w : World) :
    CallsIn F n Try.prog 60 #[.slice p len cap] w fun e w' => e = .returned (.func (.func 73) #[] #[.pointer (some ⟨w.heap.size, 0, none⟩)]) ∧ w' = w.alloc (.cells #[.slice p len cap] 36) := by
  refine callsIn_of_wp Try.func60 rfl h54 ?_ hro
  simp only [Try.ntmps60, List.size_toArray, List.length_cons, List.length_nil, Nat.reduceAdd, Nat.reduceSub, Array.replicate_succ, Array.replicate_zero, List.push_toArray, List.append_toArray, List.nil_append, List.cons_append]
  gi_wp2
  go_ret
  exact ⟨rfl, rfl⟩
theorem back_stops {α : Type} (enc : α → Array Value) (F : Fence) (n : Nat) (h93 : F.fn 73) (hro : F.round = none) (hn : 1 ≤ n) (Bs n₀ : Nat) (xs : List α) (q : Nat → Int) (hxs : BackEnc enc q xs) (p : Option Addr) (cap : Nat) (hlen : xs.length ≤ 1000000) (w : World) (hBs : Bs < w.heap.size) (hBs0 : Bs < n₀) (hn₀ : n₀ ≤ w.heap.size)
    (hc : w.cell? ⟨Bs, 0, none⟩ = some (.slice p xs.length cap)) (hL : IntsAt n₀ w p xs.length q) :
    SeqStopsK F n Try.prog 73 #[.pointer (some ⟨Bs, 0, none⟩)] enc (Below n₀) (fun ys => ys = xs) (fun pre => pre <+: xs) xs.length w := fun l J Jx W hW _ _ hY h0 =>
  back1_in enc F n h93 hro hn l Bs n₀ xs q hxs p cap hlen hBs0 J Jx hY W ((hW.cell (p := ⟨Bs, 0, none⟩) hBs).trans hc) (hL.below (hW.mono hn₀)) h0

/-- Blocks of cells are untouched, and so are those below B. -/
structure Tn (B : Nat) (W W' : World) : Prop where
  os : W'.os = W.os
  tape : W'.tape = W.tape
  output : W'.output = W.output
  size : W.heap.size ≤ W'.heap.size
  low : ∀ k, k < B → W'.heap[k]? = W.heap[k]?
  cells : ∀ (k : Nat) c t f, W.heap[k]? = some (.cells c t f) → W'.heap[k]? = W.heap[k]?
theorem Tn.refl (B : Nat) (W : World) : Tn B W W := ⟨rfl, rfl, rfl, Nat.le_refl _, fun _ _ => rfl, fun _ _ _ _ _ => rfl⟩
theorem Tn.grown {B : Nat} {W A C : World} (h : Tn B W A) {row : Option Nat} (hg : A.grownBy C row) (hr : ∀ r, row = some r → B ≤ r ∧ ∃ o : Obj, A.heap[r]? = some o ∧ o.isCells = false) (hB : B ≤ W.heap.size) : Tn B W C :=
  ⟨hg.os.trans h.os, hg.tape.trans h.tape, hg.output.trans h.output, Nat.le_trans h.size hg.size, fun k hk => (hg.block k (by have := h.size; omega) (fun e => by have := (hr k e.symm).1; omega)).trans (h.low k hk), fun k c t f e => by
    have h1 := (h.cells k c t f e).trans e
    refine (hg.block k (Array.getElem?_eq_some_iff.1 h1).1 fun er => ?_).trans (h.cells k c t f e)
    obtain ⟨-, o, ho, hc⟩ := hr k er.symm
    rw [h1] at ho; cases ho; cases hc⟩
section
variable {W W' : World} {own : Own} {lb : Nat} {L : Lay} {t : Ld.T} {B : Nat}
theorem Blk.tn {b : Nat} {cs : List Value} (h : Blk W b cs) (hT : Tn B W W') : Blk W' b cs := by
  obtain ⟨c, t, e⟩ := h.ob
  exact h.of_eq (Nat.lt_of_lt_of_le h.lt hT.size) (hT.cells b c t _ e)
theorem owns_tn {b n sz : Nat} {t : TypeId} {v : Value} {xs : List Value} (h : W.ownsRow b t sz v n xs) (hT : Tn B W W') : W'.ownsRow b t sz v n xs := by
  refine ⟨h.1, ?_⟩
  rcases h.2 with h0 | ⟨g, cap, cur, e, hbg, hg, r⟩
  · exact .inl h0
  · exact .inr ⟨g, cap, cur, e, hbg, (hT.cells _ _ _ _ hg).trans hg, r⟩
theorem Rep.tn (h : Rep W own lb L t) (hT : Tn B W W') : Rep W' own lb L t :=
  ⟨fun k r e => Nat.lt_of_lt_of_le (h.lt k r e) hT.size, h.mine, h.blk.tn hT, h.evo, owns_tn h.erow hT, h.hvo, fun i hi => owns_tn (h.hrow i hi) hT⟩
/-- The blocks of w that are no cells are as they were; those that are may have turned. -/
def GoneT (w : World) (own : Own) (lb : Nat) (t : Ld.T) (w' : World) : Prop := ∃ W0, Gone w own lb t W0 ∧ Tn w.heap.size W0 w'
theorem GoneT.grown {w A C : World} (h : GoneT w own lb t A) {row : Option Nat} (hg : A.grownBy C row) (hr : ∀ r, row = some r → w.heap.size ≤ r ∧ ∃ o : Obj, A.heap[r]? = some o ∧ o.isCells = false) : GoneT w own lb t C := by
  obtain ⟨W0, hG, hT⟩ := h
  exact ⟨W0, hG, hT.grown hg hr (by obtain ⟨_, _, _, _, hF⟩ := hG; exact hF.size)⟩
theorem GoneT.gone {w A : World} (h : GoneT w own lb t A) : Gone w own lb t A := by
  obtain ⟨W0, ⟨o, M, hR, hk, hF⟩, hT⟩ := h
  exact ⟨o, M, hR.tn hT, hk, ⟨hT.os.trans hF.os, hT.tape.trans hF.tape, hT.output.trans hF.output, Nat.le_trans hF.size hT.size, fun k hk hn => (hT.low k hk).trans (hF.block k hk hn),
    fun k o e ho => (hT.low k (Array.getElem?_eq_some_iff.1 e).1).trans (hF.oth k o e ho)⟩⟩
end
end Go.Proofs.Ytapbghkoijmjeaa
