/- ChannelOrder: the channel and two lists of numbers. -/
import Derived.Test.YtlibkhndekgnfaaDoorOrdPure
import Derived.Maps.AppendAt
namespace Go.Proofs.YtlibkhndekgnfaaDoor
open Go.RowKit

theorem info3 : (Tryd.prog.info? 3).map (fun i => (i.zero, i.size, i.bytes)) = some (some (.int .i64 0), 1, 8) := by kernel_rfl

def iC (x : Int) : List Value := [.int .i64 x]
abbrev IsAt := RowAt iC 1 3

/-- The channel and the lists lie apart. -/
structure Om (w0 : World) (b : Nat) (ns : List Nat) (c : Cn.St) (S R : List Int) (vS vR : Value) (wr : World) : Prop where
  own : Own w0 wr b ns c
  rs : IsAt wr w0.heap.size vS S
  rr : IsAt wr w0.heap.size vR R
  ds : ∀ k, vS.ownBlock = some k → k ∉ b :: ns
  dr : ∀ k, vR.ownBlock = some k → k ∉ b :: ns
  dx : ∀ k, vS.ownBlock = some k → vR.ownBlock ≠ some k
  bel : Below w0.heap.size w0 wr

section
variable {w0 : World} {b : Nat} {ns : List Nat} {c : Cn.St} {S R : List Int} {vS vR : Value} {wr W : World}
theorem Om.call (h : Om w0 b ns c S R vS vR wr) {ns' : List Nat} {c' : Cn.St} (hn : ∀ x ∈ ns', x ∈ ns ∨ wr.heap.size ≤ x) (hR : Rep W b ns' c') (hF : Fr (b :: ns) wr W) (hw : c'.wait.length ≤ 200) (hd : c'.dropped < 4611686018427387000) : Om w0 b ns' c' S R vS vR W := by
  have hz := h.bel.size
  have ap : ∀ (v : Value) (l : List Int), IsAt wr w0.heap.size v l → (∀ k, v.ownBlock = some k → k ∉ b :: ns) → ∀ k, v.ownBlock = some k → k ∉ b :: ns' := fun v l hv hk k e hm => by
    have h1 := RowAt.block hv k e
    rcases List.mem_cons.1 hm with h2 | h2
    · exact hk k e (by simp [h2])
    · rcases hn k h2 with h3 | h3
      · exact hk k e (List.mem_cons_of_mem _ h3)
      · omega
  refine ⟨⟨hR, ?_, h.own.env.fr hF (fun hm => by have := h.own.positive 0 hm; omega), h.own.pos, hw, hd⟩, RowAt.fr h.rs hF h.ds, RowAt.fr h.rr hF h.dr, ap vS S h.rs h.ds, ap vR R h.rr h.dr, h.dx, h.bel.trans (hF.below h.own.ge hz)⟩
  intro x hx
  rcases List.mem_cons.1 hx with rfl | hx
  · exact h.own.ge _ (by simp)
  · rcases hn x hx with h3 | h3
    · exact h.own.ge x (List.mem_cons_of_mem _ h3)
    · omega
theorem Om.below (h : Om w0 b ns c S R vS vR wr) (hb : Below wr.heap.size wr W) : Om w0 b ns c S R vS vR W :=
  h.call (fun x hx => .inl hx) (h.own.rep.below hb) (Fr.of_below hb) h.own.wl h.own.dr
theorem Om.swap (h : Om w0 b ns c S R vS vR wr) : Om w0 b ns c R S vR vS wr := ⟨h.own, h.rr, h.rs, h.dr, h.ds, fun k e e' => h.dx k e' e, h.bel⟩
theorem fr_grown {v : Value} (h : wr.grownBy W v.ownBlock) : Fr v.ownBlock.toList wr W := ⟨h.os, h.tape, h.output, h.size, fun k hk hn => h.block k hk (fun e => hn (by rw [← e]; simp))⟩
/-- One more number. -/
theorem Om.append (h : Om w0 b ns c S R vS vR wr) {v' : Value} {n : Nat} {xs : List Value} {x : Int} (hn : n = (S ++ [x]).length) (hx : xs = (S ++ [x]).flatMap iC) (hown : W.ownsRow w0.heap.size 3 1 v' n xs) (hg : wr.grownBy W vS.ownBlock) (hat : v'.ownBlock = vS.ownBlock ∨ v'.ownBlock = some wr.heap.size) : Om w0 b ns c (S ++ [x]) R v' vR W := by
  subst hn hx
  have hF := fr_grown hg
  have hz := h.bel.size
  have hlt := h.own.rep.lt
  have hnew : ∀ k, v'.ownBlock = some k → vS.ownBlock = some k ∨ wr.heap.size ≤ k := fun k e => by
    rcases hat with h1 | h1
    · exact .inl (h1 ▸ e)
    · rw [h1] at e; cases e; exact .inr (Nat.le_refl _)
  refine ⟨⟨h.own.rep.fr hF fun x hx => ?_, h.own.ge, h.own.env.fr hF ?_, h.own.pos, h.own.wl, h.own.dr⟩, hown, RowAt.fr h.rr hF ?_, fun k e hm => ?_, h.dr, fun k e e' => ?_, h.bel.trans (hF.below ?_ hz)⟩
  · intro hm
    simp at hm
    exact h.ds x hm hx
  · intro hm
    simp at hm
    have := (RowAt.block h.rs 0 hm).1
    have := h.own.pos
    omega
  · intro k e hm
    simp at hm
    exact h.dx k hm e
  · rcases hnew k e with h1 | h1
    · exact h.ds k h1 hm
    · have := hlt k hm; omega
  · rcases hnew k e with h1 | h1
    · exact h.dx k h1 e'
    · have := (RowAt.block h.rr k e').2; omega
  · intro k hm
    simp at hm
    exact (RowAt.block h.rs k hm).1
end
theorem iC_flat (S : List Int) (x : Int) : S.flatMap iC ++ [.int .i64 x] = (S ++ [x]).flatMap iC := by simp [iC]
end Go.Proofs.YtlibkhndekgnfaaDoor
