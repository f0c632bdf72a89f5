/- The iterators over a channel's waiters and over its buffer. -/
import Derived.RangeFuncNested
import Derived.RangeFuncBound
import Derived.RangeFuncCalls
import Derived.RangeFuncLeaves
import Derived.Shelf.Abstract
import Derived.Shelf.RegionOpen
import Derived.WalkKit
import Derived.OwnWalkIn
import Derived.TacticsInMore
import Derived.LoopNIn
import Derived.LoopIn
import Derived.Maps.AppendAt
import Derived.Test.YtlibkhndekgnfaaDoorRows2
namespace Go.Proofs.YtlibkhndekgnfaaDoor
open Go.RowKit Go.Shelf

attribute [local go_sem] Oper.semAt_some

theorem Chain.belowN {W W' : World} {ns : List Nat} {ws : List Cn.Wt} {n₀ : Nat} (h : Chain W ns ws) (hb : Below n₀ W W') (hlt : ∀ x ∈ ns, x < n₀) : Chain W' ns ws :=
  ⟨h.len, fun k m w hm hw => (h.node k m w hm hw).below hb (hlt m (List.mem_of_getElem? hm))⟩

/-- The number of a node, by the pointer to it. -/
def ptrIdx (ns : List Nat) : Value → Nat
  | .pointer (some a) => ns.idxOf a.block
  | _ => ns.length
theorem ptrIdx_at {ns : List Nat} (h : ns.Nodup) {k : Nat} (hk : k ≤ ns.length) : ptrIdx ns (.pointer (ptrAt ns k)) = k := by
  by_cases hl : k < ns.length
  · have e : ns[k]? = some (ns[k]'hl) := List.getElem?_eq_getElem hl
    simp only [ptrAt, e, Option.map_some, ptrIdx]
    exact idxOf_nodup h e
  · have e : ns[k]? = none := List.getElem?_eq_none (by omega)
    simp only [ptrAt, e, Option.map_none, ptrIdx]
    omega

abbrev encW (x : Cn.Wt) : Array Value := #[wtV x.t x.send x.v.k x.v.n x.v.s]
abbrev encV (x : Cn.V) : Array Value := #[valV x.k x.n x.s]

set_option maxRecDepth 100000 in
set_option maxHeartbeats 2000000 in
theorem qall1_in (F : Fence) (n : Nat) (h53 : F.fn 53) (hro : F.round = none) (hn : 1 ≤ n) (l Bn n₀ b : Nat) (ns : List Nat) (ws : List Cn.Wt) (hnd : ns.Nodup) (hlt0 : ∀ x ∈ ns, x < n₀) (J Jx : List Cn.Wt → World → Prop)
    (hY : ∀ pre x W, J pre W → pre.length < ws.length → YieldAt F (n - 1) Tryd.prog l (encW x) W fun e W' =>
      (e = .returned (.bool true) ∧ J (pre ++ [x]) W' ∧ Below n₀ W W') ∨ (e = .returned (.bool false) ∧ Jx (pre ++ [x]) W'))
    (W : World) (hBn : W.cell? ⟨Bn, 0, none⟩ = some (.pointer (some ⟨b, 53, none⟩))) (hp : W.cell? ⟨b, 53, none⟩ = some (.pointer (ptrAt ns 0))) (hch : Chain W ns ws) (h0 : J [] W) :
    CallsIn F n Tryd.prog 53 #[.func (.yield l) #[] #[], .pointer (some ⟨Bn, 0, none⟩)] W fun e W' => (∃ v, e = .returned v) ∧
      ((∃ ys, ys = ws ∧ J ys W') ∨ (∃ pre, pre <+: ws ∧ Jx pre W')) := by
  refine callsIn_of_wp Tryd.func53 rfl h53 ?_ hro
  simp only [Tryd.ntmps53, List.size_toArray, List.length_cons, List.length_nil, Nat.reduceAdd, Nat.reduceSub, Array.replicate_succ, Array.replicate_zero, List.push_toArray, List.append_toArray, List.nil_append, List.cons_append]
  gi_wp2
  gi_loopw [3] (fun p wr => ∃ k : Nat, k ≤ ns.length ∧ p = .pointer (ptrAt ns k) ∧ Chain wr ns ws ∧ J (ws.take k) wr)
    (fun p _ => ns.length - ptrIdx ns p)
  case atStart =>
    exact ⟨0, Nat.zero_le _, rfl, hch, by simpa using h0⟩
  case round =>
    obtain ⟨k, hk, rfl, hc, hJs⟩ := hrel
    have hlen := hc.len
    have HI := Lib.hid (ptrIdx_at hnd hk)
    by_cases hkl : k < ns.length
    · obtain ⟨m, hm⟩ : ∃ m, ns[k]? = some m := ⟨_, List.getElem?_eq_getElem hkl⟩
      obtain ⟨x, hx⟩ : ∃ x, ws[k]? = some x := ⟨_, List.getElem?_eq_getElem (by omega)⟩
      obtain ⟨n0, n1, n2, n3, n4, n5, hml⟩ := hc.cells hm hx
      have hmn : m < n₀ := hlt0 m (List.mem_of_getElem? hm)
      obtain ⟨fn, tmps, assign, body, hy, hR⟩ := hY (ws.take k) x wr hJs (by rw [List.length_take]; omega)
      have HT : Hid (ws.take k ++ [x] = ws.take (k + 1)) := Lib.hid (by
        rw [List.take_succ_eq_append_getElem (by omega)]
        have : ws[k]'(by omega) = x := by rw [List.getElem?_eq_getElem (by omega)] at hx; exact Option.some.inj hx
        rw [this])
      have HC := Lib.hid hc
      have e0 : ptrAt ns k = some ⟨m, 0, none⟩ := by simp [ptrAt, hm]
      rw [e0]
      rw [e0] at HI
      clear hm hx hc e0 hp hBn
      gi_wp2
      refine hR.mono ?_
      rintro e W3 (⟨rfl, hJ3, hk3⟩ | ⟨rfl, hJx3⟩)
      · have hq3 : W3.cell? ⟨m, 5, none⟩ = some (.pointer (ptrAt ns (k + 1))) := (hk3.cell (p := ⟨m, 5, none⟩) hmn).trans n5
        have HC3 := Lib.hid (HC.out.belowN hk3 hlt0)
        rw [HT.out] at hJ3
        gi_wp2
        go_roundw
        case rel => exact ⟨k + 1, by omega, rfl, HC3.out, hJ3⟩
        case measure =>
          have e1 := HI.out
          have e2 := ptrIdx_at hnd (k := k + 1) (by omega)
          simp only [e1, e2]
          omega
      · rw [HT.out] at hJx3
        gi_wp2
        refine bodyPost_ret (results_none rfl _ _ _) rfl ?_
        exact ⟨⟨_, rfl⟩, .inr ⟨_, List.take_prefix _ _, hJx3⟩⟩
    · obtain rfl : k = ns.length := by omega
      rw [show ptrAt ns ns.length = none by simp [ptrAt]]
      rw [hlen, List.take_length] at hJs
      gi_wp2
      go_end0
      exact ⟨⟨_, rfl⟩, .inl ⟨ws, rfl, hJs⟩⟩

/-- The iterator's contract. -/
theorem qall_stops (F : Fence) (n : Nat) (h53 : F.fn 53) (hro : F.round = none) (hn : 1 ≤ n) (Bn n₀ b : Nat) (ns : List Nat) (ws : List Cn.Wt) (hnd : ns.Nodup) (hlt0 : ∀ x ∈ ns, x < n₀) (hb : b < n₀) (w : World) (hBn : Bn < w.heap.size) (hn₀ : n₀ ≤ w.heap.size)
    (hc : w.cell? ⟨Bn, 0, none⟩ = some (.pointer (some ⟨b, 53, none⟩))) (hp : w.cell? ⟨b, 53, none⟩ = some (.pointer (ptrAt ns 0))) (hch : Chain w ns ws) :
    SeqStopsK F n Tryd.prog 53 #[.pointer (some ⟨Bn, 0, none⟩)] encW (Below n₀) (fun ys => ys = ws) (fun pre => pre <+: ws) ws.length w := fun l J Jx W hW _ _ hY h0 =>
  qall1_in F n h53 hro hn l Bn n₀ b ns ws hnd hlt0 J Jx hY W ((hW.cell (p := ⟨Bn, 0, none⟩) hBn).trans hc) ((hW.cell (p := ⟨b, 53, none⟩) (by show b < _; omega)).trans hp) (hch.belowN (hW.mono hn₀) hlt0) h0

/-- q.all(). -/
theorem qall_in (F : Fence) (n : Nat) (h31 : F.fn 31) (hro : F.round = none) (b : Nat) (w : World) :
    CallsIn F n Tryd.prog 31 #[.pointer (some ⟨b, 53, none⟩)] w fun e w' => e = .returned (.func (.func 53) #[] #[.pointer (some ⟨w.heap.size, 0, none⟩)]) ∧ w' = w.alloc (.cells #[.pointer (some ⟨b, 53, none⟩)] 112) := by
  refine callsIn_of_wp Tryd.func31 rfl h31 ?_ hro
  simp only [Tryd.ntmps31, List.size_toArray, List.length_cons, List.length_nil, Nat.reduceAdd, Nat.reduceSub, Array.replicate_succ, Array.replicate_zero, List.push_toArray, List.append_toArray, List.nil_append, List.cons_append]
  gi_wp2
  go_ret
  exact ⟨rfl, rfl⟩
theorem ringall_in (F : Fence) (n : Nat) (h29 : F.fn 29) (hro : F.round = none) (b : Nat) (w : World) :
    CallsIn F n Tryd.prog 29 #[.pointer (some ⟨b, 3, none⟩)] w fun e w' => e = .returned (.func (.func 50) #[] #[.pointer (some ⟨w.heap.size, 0, none⟩)]) ∧ w' = w.alloc (.cells #[.pointer (some ⟨b, 3, none⟩)] 108) := by
  refine callsIn_of_wp Tryd.func29 rfl h29 ?_ hro
  simp only [Tryd.ntmps29, List.size_toArray, List.length_cons, List.length_nil, Nat.reduceAdd, Nat.reduceSub, Array.replicate_succ, Array.replicate_zero, List.push_toArray, List.append_toArray, List.nil_append, List.cons_append]
  gi_wp2
  go_ret
  exact ⟨rfl, rfl⟩

end Go.Proofs.YtlibkhndekgnfaaDoor
