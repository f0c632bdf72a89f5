/- The frame of the statements whose rows list seven variables: what the condition gives the walks. -/
import Derived.Test.YtbhknpombmdhiaaDoorFrame
import Derived.Test.YtbhknpombmdhiaaDoorShelfB
import Derived.Lib.LaidTab
namespace Go.Proofs.YtbhknpombmdhiaaDoor
open Go.RowKit

/-- One variable of a list, wherever it stands there. -/
def Stands (W : World) (x : String) (d : DataW Unit) : Prop :=
  ∃ g t cs fuel p, Tryd.prog.globalNamed x = some g ∧ (Tryd.prog.globals[g]?).map (·.type) = some t ∧ W.var? Tryd.prog x = some cs ∧ DataW.trod (fun _ => ()) Tryd.prog W 0 (fun _ => true) false fuel t cs.toList = some (d, p)
theorem stands_of : ∀ {l : List (String × DataW Unit)} {ps : List MemPlace} {W : World}, DataW.LaidVars Tryd.prog W l ps → ∀ {x : String} {d : DataW Unit}, (x, d) ∈ l → Stands W x d
  | [], _, _, _, _, _, hm => nomatch hm
  | (y, c) :: r, _, W, ⟨g, t, cs, fuel, p, q, h1, h2, h3, h4, h5, _⟩, x, d, hm => by
    cases hm with
    | head => exact ⟨g, t, cs, fuel, p, h1, h2, h3, h4⟩
    | tail _ hm => exact stands_of h5 hm

/-- The listed variables of the rows that list seven. -/
def laid7 {H : Type} : List (String × DataW H) := [("math/bits.deBruijn32tab", Rows.laid_math_bits_deBruijn32tab), ("math/bits.deBruijn64tab", Rows.laid_math_bits_deBruijn64tab), ("internal/strconv.uint64pow10", Rows.laid_internal_strconv_uint64pow10), ("strconv.ErrRange", Rows.laid_strconv_ErrRange), ("strconv.ErrSyntax", Rows.laid_strconv_ErrSyntax), ("unicode.White_Space", Rows.laid_unicode_White_Space), ("strings.asciiSpace", Rows.laid_strings_asciiSpace)]

theorem door_met7 (os : Os) (args : Array Value) : laidMetH Tryd.prog laid7 ((World.doorLaid Tryd.prog 4000 os).forCall (fun _ _ => 0) ⟨#[], args, []⟩).memory :=
  laidMetH_of_parts3 (fuel := 8) (laidMet_of_run' 8 (by kernel_rfl) (by kernel_rfl)) (by kernel_rfl) (by kernel_rfl)

/-- What the walks need, and the table of blanks. -/
def EnvN (w : World) : Prop := Env w ∧ Lib.TabIs Tryd.prog w "strings.asciiSpace" .u8 Lib.asciiSpaceTab

theorem space_tab : (Rows.laid_strings_asciiSpace : DataW Unit) = Lib.tabData .u8 Lib.asciiSpaceTab := by kernel_rfl

theorem envN_of_laid {W : World} (hsh : W.ShapedOpen Tryd.prog) (h : laidMetH Tryd.prog laid7 W) : EnvN W := by
  rw [MakeChecks.laidMetH_plain _ _ _ (by kernel_rfl)] at h
  obtain ⟨ps, hv, _⟩ := h
  have r1 := stands_of hv (x := "math/bits.deBruijn64tab") (d := Rows.laid_math_bits_deBruijn64tab) (by simp [laid7])
  have r3 := stands_of hv (x := "strconv.ErrRange") (d := Rows.laid_strconv_ErrRange) (by simp [laid7])
  have r6 := stands_of hv (x := "strings.asciiSpace") (d := Rows.laid_strings_asciiSpace) (by simp [laid7])
  refine ⟨?_, ?_⟩
  · obtain ⟨g1, t1, cs1, f1, p1, hg1, ht1, hv1, hd1⟩ := r1
    obtain ⟨g3, t3, cs3, f3, p3, hg3, ht3, hv3, hd3⟩ := r3
    obtain rfl := Option.some.inj (gTab.symm.trans hg1)
    obtain rfl := Option.some.inj (gRange.symm.trans hg3)
    obtain rfl := Option.some.inj (tRange.symm.trans ht3)
    obtain ⟨fr, u, v, hcs, _, _⟩ := iface_of_trod Tryd.underlying68 hd3
    obtain ⟨m, hm⟩ := Tryd.laysM143.s1_3 W hsh
    refine ⟨⟨m, hm⟩, ⟨u, v, ?_⟩, ?_⟩
    · have := World.var?_cell hg3 hv3 0
      rw [Array.eq_one_of_toList hcs] at this
      simpa using this
    · simp only [World.var?, hg1, Option.bind_some] at hv1
      rcases Nat.lt_or_ge 7 W.heap.size with h7 | h7
      · exact h7
      · rw [Array.getElem?_eq_none h7] at hv1
        simp at hv1
  · obtain ⟨g, t, cs, fuel, p, hg, ht, hvar, hd⟩ := r6
    rw [space_tab] at hd
    obtain rfl := Option.some.inj ((show Tryd.prog.globalNamed "strings.asciiSpace" = some 0 by kernel_rfl).symm.trans hg)
    obtain rfl := Option.some.inj ((show (Tryd.prog.globals[0]?).map (·.type) = some 86 by kernel_rfl).symm.trans ht)
    unfold Lib.TabIs
    rw [hvar, ← Lib.cells_of_tab Tryd.underlying86 Tryd.underlying5 (by kernel_rfl) (by kernel_rfl) hd]

end Go.Proofs.YtbhknpombmdhiaaDoor
