/- What Clone does, of entries and of numbers. -/
import Derived.Deep.MidRow
import Derived.Test.YtapbghkoijmjeaaShelfU
namespace Go.Proofs.Ytapbghkoijmjeaa
set_option linter.unusedVariables false
set_option linter.unusedSimpArgs false
open Go.RowKit Go.Shelf
theorem enC_one (es : List Ld.En) : ∀ u ∈ es.flatMap enC, u.oneCell' = true := by
  intro u hu
  obtain ⟨e, -, h⟩ := List.mem_flatMap.1 hu
  simp [enC] at h
  rcases h with rfl | rfl | rfl | rfl | rfl | rfl <;> rfl
set_option maxRecDepth 100000 in
set_option maxHeartbeats 4000000 in
theorem clone_e (w : World) {b : Nat} {v : Value} (es : List Ld.En) (hn : es.length ≤ 1000) (h : w.ownsRow b 76 6 v es.length (es.flatMap enC)) :
    Calls Try.prog 50 #[v] w fun e w' => ∃ v', e = .returned v' ∧ w'.ownsRow w.heap.size 76 6 v' es.length (es.flatMap enC) ∧ Below w.heap.size w w' := by
  obtain ⟨i0, hi, hz0, hz1, hz2⟩ := info_parts info76
  have q22 : ∀ (w : World) (a : Option Addr) (n c n' c' : Nat), (binOp .eql 56 (.slice a n c) (.slice none n' c')).run Try.prog w = .ok (.bool a.isNone) w := fun w a n c n' c' => Lib.run_eql_slice_nil w _ _ a n c n' c' Try.underlying56
  have u22 : ∀ w, Sem.run Try.prog (underlying 56) w = .ok (TypeDesc.slice 76) w := run_underlying Try.underlying56
  have HROW := Lib.hid h
  have HI := Lib.hid hi; have HZ0 := Lib.hid hz0; have HZ1 := Lib.hid hz1; have HZ2 := Lib.hid hz2
  rcases h.2 with ⟨rfl, h0⟩ | ⟨g, cap, cur, rfl, hb, hg, h1, h2, h3, h4⟩
  · have h0' : es = [] := List.eq_nil_of_length_eq_zero h0
    subst h0'
    clear h hi hz0 hz1 hz2 HROW
    go_enter Try.func50, Try.ntmps50
    go_wp2
    go_ret
    exact ⟨_, rfl, World.ownsRow_nil _ _ _ _, Below.refl _ _⟩
  · clear h hi hz0 hz1 hz2 hb hg h3 h4
    go_enter Try.func50, Try.ntmps50
    go_wp2_with (at_builtin; refine wpList_append_own_at _ (by rfl) _ _ 56 (by rfl) w.heap.size 76 i0 _ 6 40 Try.underlying56 HI.out HZ0.out HZ1.out HZ2.out (by rfl) (by decide) _ 0 _ (by rfl) (World.ownsRow_made w #[] 0 (Nat.le_refl _) (Nat.zero_le _) rfl) ⟨g, 0, none⟩ es.length cap (es.flatMap enC) (by rfl) ?qc1 ?qc2 ?qc3 ?qc4 ?qc5 ?qc6 ?_)
    case qc1 => exact flat_len (f := enC) (sz := 6) (fun _ => rfl) es
    case qc2 =>
      intro j u hj
      rw [add_off, Nat.zero_add]
      refine Lib.cell?_alloc_some _ ?_
      have := HROW.out.cells (g := g) rfl j u hj
      rw [add_off, Nat.zero_add] at this
      exact this
    case qc3 => exact enC_one es
    case qc4 => unfold maxLen; omega
    case qc5 => omega
    case qc6 => simp
    intro v' w1 hown hgrow hnil hat
    have HF : Hid (w1.ownsRow w.heap.size 76 6 v' es.length (es.flatMap enC) ∧ Below w.heap.size w w1) := Lib.hid ⟨by simpa using hown, ((Below.refl _ w).alloc (Nat.le_refl _) _).grown hgrow (by simp) (by intro k hk; simp [Value.ownBlock] at hk; omega)⟩
    clear hown hgrow hnil hat
    go_wp2
    go_ret
    exact ⟨v', rfl, HF.out.1, HF.out.2⟩
theorem clone_h (w : World) {b : Nat} {v : Value} (l : List Nat) (hn : l.length ≤ 1000) (h : w.ownsRow b 3 1 v l.length (l.map natV)) :
    Calls Try.prog 51 #[v] w fun e w' => ∃ v', e = .returned v' ∧ w'.ownsRow w.heap.size 3 1 v' l.length (l.map natV) ∧ Below w.heap.size w w' := by
  have e1 : l.map natV = (ints l).map (Value.int .i64) := by simp [ints, natV, List.map_map, Function.comp_def]
  have e2 : l.length = (ints l).length := by simp [ints]
  rw [e1, e2] at h ⊢
  rcases h.2 with ⟨rfl, h0⟩ | ⟨g, cap, cur, rfl, hb, hg, h1, h2, h3, h4⟩
  · refine (Any.slices_Clone_int_nil Try.laysNm215 0 0 w).mono ?_
    rintro e w' ⟨rfl, rfl⟩
    have h0' : ints l = [] := List.eq_nil_of_length_eq_zero h0
    rw [h0']
    exact ⟨_, rfl, World.ownsRow_nil _ _ _ _, Below.refl _ _⟩
  · obtain ⟨hcell, hf⟩ := row_ints h
    refine (Any.slices_Clone_int Try.laysNm215 g 0 (ints l).length cap (ints l) w (Nat.le_refl _) (by rw [← e2]; omega) hcell).mono ?_
    rintro e w' ⟨v', rfl, hr, -, hbl⟩
    rw [List.take_length] at hr
    exact ⟨v', rfl, hr, hbl⟩
end Go.Proofs.Ytapbghkoijmjeaa
