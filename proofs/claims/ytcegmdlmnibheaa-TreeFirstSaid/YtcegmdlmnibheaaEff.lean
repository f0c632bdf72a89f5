/- Lists of effects that grow. -/
import Derived.Test.YtcegmdlmnibheaaFail
import Derived.Laws.AppendOwnNone
namespace Go.Proofs.Ytcegmdlmnibheaa
set_option linter.unusedVariables false
set_option linter.unusedSimpArgs false
open Go.RowKit
theorem info76 : (Try.prog.info? 76).map (fun i => (i.zero, i.size, i.bytes)) = some (some (.agg #[.int .i64 0, .int .i64 0, .int .i64 0, .int .i64 0, .string ⟨#[]⟩]), 5, 48) := by kernel_rfl
theorem ownsRow_succ {w : World} {base : Nat} {e : TypeId} {size : Nat} {v : Value} {n : Nat} {xs : List Value} (h : w.ownsRow base e size v (n + 1) xs) : ∃ g cap, v = .slice (some ⟨g, 0, none⟩) (n + 1) cap := by
  rcases h.2 with ⟨_, h0⟩ | ⟨g, cap, cur, e, _⟩
  · omega
  · exact ⟨g, cap, e⟩
section
variable {w : World} {own : Own} {tb : Nat} {L : Lay} {t : Tr.T}
theorem Rep.grown {W' : World} {v : Value} (h : Rep w own tb L t) (hn : ∀ k, v.ownBlock = some k → own k = none) (hg : w.grownBy W' v.ownBlock) (hc : ∀ x, v.ownBlock = some x → ∃ c t f, w.heap[x]? = some (.cells c t f)) : Rep W' own tb L t :=
  h.fr (S := fun k => v.ownBlock = some k) (Fr.grown (Fr.refl (fun k => v.ownBlock = some k) w) hg (fun x e => .inl e) hc) hn
theorem step_grown {w0 W W' : World} {o p : Own} {v : Value} (h : Step w0 o W p) (hg : W.grownBy W' v.ownBlock) (hn : ∀ k, v.ownBlock = some k → w0.heap.size ≤ k) (hc : ∀ x, v.ownBlock = some x → ∃ c t f, W.heap[x]? = some (.cells c t f)) : Step w0 o W' p :=
  ⟨h.keep, h.fr.grown hg (fun x e => .inr (hn x e)) hc⟩
theorem efC_one (e : Tr.E) : ∀ u ∈ efC e, u.oneCell' = true := by simp [efC, Value.oneCell']
theorem efC_len (e : Tr.E) : (efC e).length = 5 := rfl
theorem Rep.not_own (h : Rep w own tb L t) {k : Nat} (hk : w.heap.size ≤ k) : own k = none := by
  cases e : own k with
  | none => rfl
  | some r => have := h.lt k r e; omega
/-- No text in a fault that is none. -/
theorem cells_one_new (w : World) (e : Tr.E) : ∀ j u, (efC e)[j]? = some u → (w.alloc (.cells #[.int .i64 e.k, .int .i64 e.n, .int .i64 e.m, .int .i64 e.f.k, .string e.f.s] 76)).cell? ((⟨w.heap.size, 0, none⟩ : Addr).add j) = some u := by
  intro j u hj
  rw [add_off]
  have := (Blk.new w #[.int .i64 e.k, .int .i64 e.n, .int .i64 e.m, .int .i64 e.f.k, .string e.f.s] 76).cell j u hj
  simpa using this
theorem row_cells5 {W : World} {base g n cap : Nat} {xs : List Value} (h : W.ownsRow base 76 5 (.slice (some ⟨g, 0, none⟩) n cap) n xs) : ∀ j u, xs[j]? = some u → W.cell? ((⟨g, 0, none⟩ : Addr).add j) = some u := h.cells (g := g) rfl
end
end Go.Proofs.Ytcegmdlmnibheaa
