/- What the function list of the statements returns: a copy of a list of tokens, in new memory. -/
import Derived.Test.YtbhknpombmdhiaaDoorLawBack
import Derived.Test.YtbhknpombmdhiaaDoorLawNames
namespace Go.Proofs.YtbhknpombmdhiaaDoor
open Go.RowKit

theorem list_nil_any (w : World) : Calls Tryd.prog 19 #[.slice none 0 0] w fun e w' => e = .returned (.slice none 0 0) ∧ w = w' := by
  go_enter Tryd.func19, Tryd.ntmps19
  go_wp2
  go_ret
  exact ⟨rfl, rfl⟩

theorem row_all {W : World} {b g k cap : Nat} {l : List Lx.Tok} (h : W.ownsRow b 47 3 (.slice (some ⟨g, 0, none⟩) k cap) k (cellsT l)) : ∀ j u, (cellsT l)[j]? = some u → W.cell? ((⟨g, 0, none⟩ : Addr).add j) = some u := by
  intro j u hu
  have hj : j < (cellsT l).length := (List.getElem?_eq_some_iff.1 hu).1
  rw [h.1] at hj
  have e : (⟨g, 0, none⟩ : Addr).add j = ⟨g, j, none⟩ := by simp [Addr.add]; omega
  rw [e, h.cellAt j hj, hu]
theorem cells3_one (l : List Lx.Tok) : ∀ u ∈ cellsT l, u.oneCell' = true := by
  intro u hu
  obtain ⟨x, _, hx⟩ := List.mem_flatMap.1 hu
  simp [cells3] at hx
  rcases hx with rfl | rfl | rfl <;> rfl

set_option maxRecDepth 100000 in
set_option maxHeartbeats 1000000 in
theorem list_any (L : List Lx.Tok) (N k : Nat) (hN : N = L.length) (hk : k = min N 2002) (hN0 : 0 < N) (g cap : Nat) (bv : Nat) (w : World) (hv : w.ownsRow bv 47 3 (.slice (some ⟨g, 0, none⟩) N cap) N (cellsT L)) :
    Calls Tryd.prog 19 #[.slice (some ⟨g, 0, none⟩) N cap] w fun e w' => ∃ u, e = .returned u ∧ w'.ownsRow w.heap.size 47 3 u k (cellsT (L.take k)) ∧ Below w.heap.size w w' := by
  have hcap : N ≤ cap ∧ cap ≤ maxLen := by
    obtain ⟨g', cap', e, h1, h2⟩ := row_form hv hN0
    cases e; exact ⟨h1, h2⟩
  obtain ⟨hc1, hc2⟩ := hcap
  unfold maxLen at hc2
  have hf := own_front (l1 := L.take k) (l2 := L.drop k) (by rw [List.take_append_drop]; exact hv) (k := k) (by rw [List.length_take]; omega)
  have hr := row_all hf
  have hl1 := hf.1
  have HR := Lib.hid hr
  have HL1 := Lib.hid hl1
  have H1 := Lib.hid (cells3_one (L.take k))
  have hmi : min (N : Int) 2002 = (k : Int) := by omega
  have hkN : k ≤ N := by omega
  have hk2 : k ≤ 2002 := by omega
  obtain ⟨i0, hi, hz0, hz1, hz2⟩ := info_parts info47
  have HI := Lib.hid hi; have HZ0 := Lib.hid hz0; have HZ1 := Lib.hid hz1; have HZ2 := Lib.hid hz2
  clear hi hz0 hz1 hz2 hv hf hr hl1 hk hN
  go_enter Tryd.func19, Tryd.ntmps19
  go_wp2_with (at_builtin; refine wpList_append_own _ rfl _ _ 23 rfl w.heap.size 47 i0 (.agg #[.int .i64 0, .string ⟨#[]⟩, .int .i64 0]) 3 32 Tryd.underlying23 HI.out HZ0.out HZ1.out HZ2.out rfl (by decide) _ _ _ rfl (World.ownsRow_nil _ _ _ _) ⟨g, 0, none⟩ k cap (cellsT (L.take k)) rfl HL1.out HR.out H1.out ?n3 ?n4 ?n5 ?_)
  case n3 => unfold maxLen; omega
  case n4 => omega
  case n5 => exact Nat.le_refl _
  intro v' w3 hown' hgrow _
  have HO := Lib.hid hown'
  have HB : Hid (Below w.heap.size w w3) := Lib.hid ((Below.refl _ w).grown hgrow (Nat.le_refl _) (fun b e => by simp [Value.ownBlock] at e))
  clear hown' hgrow
  go_wp2
  go_ret
  exact ⟨v', rfl, by simpa using HO.out, HB.out⟩

end Go.Proofs.YtbhknpombmdhiaaDoor
