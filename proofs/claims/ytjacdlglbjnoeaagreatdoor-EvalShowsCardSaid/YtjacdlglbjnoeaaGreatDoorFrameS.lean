/- From the condition of the rows to what the texts of values need. -/
import Derived.Test.YtjacdlglbjnoeaaGreatDoorFrame
import Derived.Test.YtjacdlglbjnoeaaGreatDoorShowC
namespace Go.Proofs.YtjacdlglbjnoeaaGreatDoor
open Go.ChangeShapes Go.WideShapes Go.ChangeAt Go.RowKit

theorem gPow : Tryz.prog.globalNamed "internal/strconv.uint64pow10" = some 3 := by kernel_rfl
theorem tPow : (Tryz.prog.globals[3]?).map (·.type) = some 196 := by kernel_rfl

theorem tab_of_laid {W : World} (h : laidMetH Tryz.prog laid8 W) : Tab W := by
  rw [MakeChecks.laidMetH_plain _ _ _ (by kernel_rfl)] at h
  obtain ⟨ps, hv, _⟩ := h
  obtain ⟨g, t, cs, fuel, p, hg, ht, hvar, hd⟩ := stands_of hv (x := "internal/strconv.uint64pow10") (d := Rows.laid_internal_strconv_uint64pow10) (by simp [laid8])
  obtain rfl := Option.some.inj (gPow.symm.trans hg)
  obtain rfl := Option.some.inj (tPow.symm.trans ht)
  unfold Tab Lib.TabIs
  rw [hvar, ← Lib.cells_of_tab (k := .u64) (zs := Lib.pow10Tab) Tryz.underlying196 Tryz.underlying178 (by kernel_rfl) (by kernel_rfl) hd]

theorem handT_of_laid {W : World} (h : laidMetH Tryz.prog laid8 W) : HandT W := ⟨hand_of_laid h, tab_of_laid h⟩
end Go.Proofs.YtjacdlglbjnoeaaGreatDoor
