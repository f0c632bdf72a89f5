/- Comparing two lists of booleans; cloning the actors of a race. -/
import Derived.Test.YtajccigefoddiaaRd2
import Derived.Test.YtajccigefoddiaaOwn
namespace Go.Proofs.Ytajccigefoddiaa
set_option linter.unusedVariables false
set_option linter.unusedSimpArgs false
open Go.RowKit Go.Shelf
theorem owns_base0 {W : World} {b n sz : Nat} {t : TypeId} {v : Value} {xs : List Value} (h : W.ownsRow b t sz v n xs) : W.ownsRow 0 t sz v n xs := by
  refine ⟨h.1, ?_⟩
  rcases h.2 with h0 | ⟨g, cap, cur, e, hbg, hg, r⟩
  · exact .inl h0
  · exact .inr ⟨g, cap, cur, e, Nat.zero_le _, hg, r⟩
def BoolsAt (W : World) (p : Option Addr) (l : List Bool) : Prop := 0 < l.length → ∃ g, p = some ⟨g, 0, none⟩ ∧ g < W.heap.size ∧ ∀ (j : Nat) b, l[j]? = some b → W.cell? ⟨g, j, none⟩ = some (.bool b)
set_option maxRecDepth 100000 in
set_option maxHeartbeats 4000000 in
theorem equalB (w : World) (p q : Option Addr) (n cp cq : Nat) (l : List Bool) (hn : l.length = n) (hl : n ≤ 1000) (hp : BoolsAt w p l) (hq : BoolsAt w q l) : Calls Try.prog 25 #[.slice p n cp, .slice q n cq] w (still w (.bool true)) := by
  unfold still
  have HP := Lib.hid hp
  have HQ := Lib.hid hq
  have HN := Lib.hid hn
  clear hp hq hn
  go_enter Try.func25, Try.ntmps25
  go_wp2_with fail
  go_loopw [13] (fun i wr => ∃ (k : Nat), k ≤ n ∧ i = .int .i64 (k : Int) ∧ Hid (Below w.heap.size w wr)) (fun i _ => n - (intOf i).toNat)
  case atStart => exact ⟨0, by omega, rfl, Lib.hid (Below.refl _ _)⟩
  case round =>
    obtain ⟨k, hk, rfl, HB⟩ := hrel
    by_cases hlt : k < n
    · obtain ⟨b, hb⟩ : ∃ b, l[k]? = some b := ⟨_, List.getElem?_eq_getElem (by have := HN.out; omega)⟩
      obtain ⟨g, rfl, hg, hc⟩ := HP.out (by have := HN.out; omega)
      obtain ⟨g2, rfl, hg2, hc2⟩ := HQ.out (by have := HN.out; omega)
      have c0 := cell_of HB.out (hc k b hb)
      have c1 := cell_of HB.out (hc2 k b hb)
      have l0 := Nat.lt_of_lt_of_le hg HB.out.size
      have l1 := Nat.lt_of_lt_of_le hg2 HB.out.size
      have j0 : (0 : Int) ≤ (k : Int) := by omega
      have j1 : (k : Int) < (n : Int) := by omega
      clear hb hc hc2 hg hg2
      go_wp2_with fail
      go_quiet (fail)
      go_wp2_with fail
      all_goals exact ⟨⟨k + 1, by omega, by go_num, Lib.hid (below_drewN HB.out _)⟩, by simp [intOf]; omega⟩
    · obtain rfl : k = n := by omega
      go_wp2
      go_ret
      exact ⟨rfl, HB.out⟩
theorem blk_of_owns {W : World} {b n sz g cap : Nat} {t : TypeId} {xs : List Value} (h : W.ownsRow b t sz (.slice (some ⟨g, 0, none⟩) n cap) n xs) : Blk W g xs := by
  have hc := fun (j : Nat) u => h.cells (g := g) rfl j u
  rcases h.2 with ⟨h1, _⟩ | ⟨g', cap', cur, h1, h2, hg, _⟩
  · cases h1
  · cases h1
    refine ⟨(Array.getElem?_eq_some_iff.1 hg).1, fun o v ho => ?_, fun o => by simp [World.frozen?, hg], ⟨_, _, hg⟩⟩
    have := hc o v ho
    rw [add_off, Nat.zero_add] at this
    exact this
set_option maxRecDepth 100000 in
set_option maxHeartbeats 4000000 in
theorem clone48 (w : World) (ab n cap : Nat) (xs : List Value) (hB : Blk w ab xs) (hl : xs.length = n * 3) (h0 : 0 < n) (h9 : n ≤ 9) (h1 : ∀ u ∈ xs, u.oneCell' = true) :
    Calls Try.prog 48 #[.slice (some ⟨ab, 0, none⟩) n cap] w fun e w' => ∃ g c, e = .returned (.slice (some ⟨g, 0, none⟩) n c) ∧ n ≤ c ∧ c ≤ maxLen ∧ w.heap.size ≤ g ∧ Blk w' g xs ∧ Below w.heap.size w w' := by
  obtain ⟨i0, hi, hz0, hz1, hz2⟩ := info_parts info91
  have q22 : ∀ (w : World) (a : Option Addr) (n c n' c' : Nat), (binOp .eql 94 (.slice a n c) (.slice none n' c')).run Try.prog w = .ok (.bool a.isNone) w := fun w a n c n' c' => Lib.run_eql_slice_nil w _ _ a n c n' c' Try.underlying94
  have u22 : ∀ w, Sem.run Try.prog (underlying 94) w = .ok (TypeDesc.slice 91) w := run_underlying Try.underlying94
  have HB := Lib.hid hB
  have HI := Lib.hid hi; have HZ0 := Lib.hid hz0; have HZ1 := Lib.hid hz1; have HZ2 := Lib.hid hz2
  clear hi hz0 hz1 hz2 hB
  go_enter Try.func48, Try.ntmps48
  go_wp2_with (at_builtin; refine wpList_append_own_at _ (by rfl) _ _ 94 (by rfl) w.heap.size 91 i0 _ 3 56 Try.underlying94 HI.out HZ0.out HZ1.out HZ2.out (by rfl) (by decide) _ 0 _ (by rfl) (World.ownsRow_made w #[] 0 (Nat.le_refl _) (Nat.zero_le _) rfl) ⟨ab, 0, none⟩ n cap xs (by rfl) ?qc1 ?qc2 ?qc3 ?qc4 ?qc5 ?qc6 ?_)
  case qc1 => exact hl
  case qc2 =>
    intro j u hj
    rw [add_off, Nat.zero_add]
    exact Lib.cell?_alloc_some _ (HB.out.cell j u hj)
  case qc3 => exact h1
  case qc4 => unfold maxLen; omega
  case qc5 => omega
  case qc6 => simp
  intro v' w1 hown hgrow hnil hat
  have hown' : w1.ownsRow w.heap.size 91 3 v' n xs := by simpa using hown
  have hsucc : ∃ g c, v' = .slice (some ⟨g, 0, none⟩) n c ∧ n ≤ c ∧ c ≤ maxLen := by
    rcases hown'.2 with ⟨e, e2⟩ | ⟨g', cap', cur, e, h1, h2, h3, h4, h5⟩
    · omega
    · exact ⟨g', cap', e, h3, h4⟩
  obtain ⟨g, c, rfl, k1, k2⟩ := hsucc
  have HF : Hid (w.heap.size ≤ g ∧ Blk w1 g xs ∧ Below w.heap.size w w1) := Lib.hid ⟨(hown'.lt g rfl).1, blk_of_owns hown', ((Below.refl _ w).alloc (Nat.le_refl _) _).grown hgrow (by simp) (by intro k hk; simp [Value.ownBlock] at hk; omega)⟩
  clear hown hgrow hnil hat hown'
  go_wp2
  go_ret
  exact ⟨g, c, rfl, k1, k2, HF.out⟩
end Go.Proofs.Ytajccigefoddiaa
