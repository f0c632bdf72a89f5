/- One more thing in a task's hand. -/
import Derived.Test.YtapbghkoijmjeaaSmall
namespace Go.Proofs.Ytapbghkoijmjeaa
set_option linter.unusedVariables false
set_option linter.unusedSimpArgs false
open Go.RowKit
theorem info3 : (Try.prog.info? 3).map (fun i => (i.zero, i.size, i.bytes)) = some (some (.int .i64 0), 1, 8) := by kernel_rfl
theorem info76 : (Try.prog.info? 76).map (fun i => (i.zero, i.size, i.bytes)) = some (some (.agg #[.int .i64 0, .int .i64 0, .int .i64 0, .int .i64 0, .bool false, .bool false]), 6, 40) := by kernel_rfl
theorem info46 : (Try.prog.info? 46).map (fun i => (i.zero, i.size, i.bytes)) = some (some (.agg #[.int .i64 0, .int .i64 0, .int .i64 0, .int .i64 0]), 4, 32) := by kernel_rfl
theorem ownsRow_succ {w : World} {base : Nat} {e : TypeId} {size : Nat} {v : Value} {n : Nat} {xs : List Value} (h : w.ownsRow base e size v (n + 1) xs) : ∃ g cap, v = .slice (some ⟨g, 0, none⟩) (n + 1) cap := by
  rcases h.2 with ⟨_, h0⟩ | ⟨g, cap, cur, e, _⟩
  · omega
  · exact ⟨g, cap, e⟩
section
variable {w : World} {own : Own} {lb : Nat} {L : Lay} {t : Ld.T}
theorem Rep.hform (h : Rep w own lb L t) {k : Nat} (hk : k < 65) : ∃ p cap, L.hv k = .slice p (t.hs k).length cap ∧ (t.hs k).length ≤ cap ∧ cap ≤ maxLen ∧ (0 < (t.hs k).length → ∃ g, p = some ⟨g, 0, none⟩ ∧ g < w.heap.size ∧ ∀ (i : Nat) a, (t.hs k)[i]? = some a → w.cell? ⟨g, i, none⟩ = some (natV a)) := by
  obtain ⟨p, cap, e, h1, h2, h3⟩ := owns_form (h.hrow k hk)
  refine ⟨p, cap, e, h1, h2, fun hp => ?_⟩
  obtain ⟨g, e2, h4, h5⟩ := h3 hp
  exact ⟨g, e2, h4, fun i a ha => h5 i _ (by rw [List.getElem?_map, ha]; rfl)⟩
theorem Rep.hcell (h : Rep w own lb L t) {k : Nat} (hk : k < 65) : w.cell? ⟨lb, 2 + k, none⟩ = some (L.hv k) := h.blk.cell _ _ (ldC_hand L t hk)
theorem Rep.led_hand (h : Rep w own lb L t) {k : Nat} (hk : k < 65) : some lb ≠ (L.hv k).ownBlock := fun e => by have := h.hvo k _ hk e.symm; rw [h.mine] at this; simp at this
theorem Rep.led_ents (h : Rep w own lb L t) : some lb ≠ L.ev.ownBlock := fun e => by have := h.evo _ e.symm; rw [h.mine] at this; simp at this

theorem push_rep (h : Rep w own lb L t) {k : Nat} (hk : k < 65) (a : Nat) {o : Obj} {w5 : World} {v : Value} (hG : (w.alloc o).grownBy w5 (L.hv k).ownBlock)
    (hrow : w5.ownsRow 0 3 1 v ((t.hs k).length + 1) ((t.hs k).map natV ++ [natV a])) (hat : v.ownBlock = (L.hv k).ownBlock ∨ v.ownBlock = some (w.heap.size + 1)) :
    Gone w own lb (Ld.setH t k (t.hs k ++ [a])) (w5.setCell ⟨lb, 2 + k, none⟩ v) := by
  have hF : Fr (fun b => b = lb ∨ (L.hv k).ownBlock = some b) w (w5.setCell ⟨lb, 2 + k, none⟩ v) :=
    Fr.set (Fr.grown (((Fr.refl (fun b => b = lb ∨ (L.hv k).ownBlock = some b) w).alloc o)) hG (fun x e => .inl (.inr e)) (owns_cells ((h.hrow k hk).alloc o))) (.inl (.inl rfl)) _ v
  have hB := ((h.blk.alloc o).grown hG (h.led_hand hk)).set (o := 2 + k) (by rw [ldC_len]; omega) v
  rw [ldC_setH L t hk v (t.hs k ++ [a])] at hB
  have hv : ∀ b, v.ownBlock = some b → own b = some (.hand k) ∨ w.heap.size ≤ b := fun b e => by
    rcases hat with h1 | h1
    · exact .inl (h.hvo k b hk (h1 ▸ e))
    · rw [h1] at e; cases e; right; omega
  have hvt : ∀ b, v.ownBlock = some b → b ≠ lb := fun b e e' => by
    have hl := h.blk.lt
    rcases hv b e with h1 | h1
    · rw [e', h.mine] at h1; simp at h1
    · omega
  have hR := h.turnH (l := t.hs k ++ [a]) hk hF hB (by
      rcases hat with h1 | h1
      · exact .inr (.inl h1)
      · exact .inr (.inr ⟨_, h1, by omega⟩)) (by
      have := owns_fr hrow (Fr.set (Fr.refl (fun b => b = lb) w5) (.inl rfl) (2 + k) v) fun b e => hvt b e
      simpa using this)
  refine ⟨_, _, hR, fun b hb => ?_, hF.widen fun b hb _ => ?_⟩
  · unfold put
    split
    · rename_i e
      rcases hv b e with h1 | h1
      · exact h1.symm
      · omega
    · rfl
  · rcases hb with rfl | hb
    · rw [h.mine]; simp
    · rw [h.hvo k b hk hb]; simp

set_option maxRecDepth 100000 in
set_option maxHeartbeats 2000000 in
theorem push_any (h : Rep w own lb L t) {k : Nat} (hk : k < 65) (a : Nat) (hlen : (t.hs k).length ≤ 1000) :
    Calls Try.prog 43 #[ptrH lb k, natV a] w fun e w' => e = .returned (.tuple #[]) ∧ Gone w own lb (Ld.setH t k (t.hs k ++ [a])) w' := by
  obtain ⟨p, cap, e, h1, h2, h3⟩ := h.hform hk
  have c0 := h.hcell hk
  have z0 := h.blk.fz (2 + k)
  have hlt := h.blk.lt
  have hrow := h.hrow k hk
  have hnr := h.led_hand hk
  have HP : Hid (∀ (o : Obj) (w5 : World) (v : Value), (w.alloc o).grownBy w5 (L.hv k).ownBlock → w5.ownsRow 0 3 1 v ((t.hs k).length + 1) ((t.hs k).map natV ++ [natV a]) → (v.ownBlock = (L.hv k).ownBlock ∨ v.ownBlock = some (w.heap.size + 1)) → Gone w own lb (Ld.setH t k (t.hs k ++ [a])) (w5.setCell ⟨lb, 2 + k, none⟩ v)) := Lib.hid fun o w5 v => push_rep h hk a
  rw [e] at c0 hrow hnr HP
  have HR := Lib.hid hrow
  have HN := Lib.hid hnr
  have HB := Lib.hid h.blk
  have HC := Lib.hid c0
  obtain ⟨i0, hi, hz0, hz1, hz2⟩ := info_parts info3
  have HI := Lib.hid hi; have HZ0 := Lib.hid hz0; have HZ1 := Lib.hid hz1; have HZ2 := Lib.hid hz2
  have hml : (2000000 : Nat) ≤ maxLen := by decide
  obtain ⟨l, hl⟩ : ∃ l, l = (t.hs k).length := ⟨_, rfl⟩
  rw [← hl] at hlen c0 HR HP HC HN h1
  have t1 : l + 1 ≤ maxLen := by omega
  clear h hrow hnr e h3 hi hz0 hz1 hz2 hl
  go_enter Try.func43, Try.ntmps43
  go_wp2_with (at_builtin; refine wpList_append_own_at _ (by rfl) (.tmp 8) (.tmp 10) 36 (by rfl) 0 3 i0 (.int .i64 0) 1 8 Try.underlying36 HI.out HZ0.out HZ1.out HZ2.out (by rfl) (by decide) (.slice p l cap) l _ (by rfl) (HR.out.alloc _) ⟨w.heap.size, 0, none⟩ 1 1 [natV a] (by rfl) (by rfl) (cell_one_new _ _ _) (by simp [Value.oneCell']) t1 (by omega) (by simp) ?_)
  intro v5 w5 hown5 hG5 _ hat5
  have HG := Lib.hid (HP.out _ _ _ hG5 hown5 (by simpa using hat5))
  obtain ⟨g5, cp5, rfl⟩ := ownsRow_succ hown5
  have hc5 : w5.cell? ⟨lb, 2 + k, none⟩ = some (.slice p l cap) := (World.cell?_of_block (a := ⟨lb, 2 + k, none⟩) (hG5.block lb (by simp; omega) HN.out)).trans ((World.cell?_alloc_past _ _ _ hlt).trans HC.out)
  have hz5 : w5.frozen? ⟨lb, 2 + k, none⟩ = false := (World.frozen?_of_block (a := ⟨lb, 2 + k, none⟩) (hG5.block lb (by simp; omega) HN.out)).trans ((HB.out.alloc _).fz _)
  have hl5 : lb < w5.heap.size := by have := hG5.size; simp at this; omega
  clear hown5 hG5 hat5 c0 z0
  go_wp2
  go_end0
  exact ⟨rfl, HG.out⟩
end
end Go.Proofs.Ytapbghkoijmjeaa
