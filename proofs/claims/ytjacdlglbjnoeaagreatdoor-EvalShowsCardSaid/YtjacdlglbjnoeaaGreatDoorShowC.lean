/- What show returns: the text of a valid value. -/
import Derived.Test.YtjacdlglbjnoeaaGreatDoorQuo
import Derived.Test.YtjacdlglbjnoeaaGreatDoorAwake
import Derived.Test.YtjacdlglbjnoeaaGreatDoorShelf
import Derived.Lib.ItoaLen
namespace Go.Proofs.YtjacdlglbjnoeaaGreatDoor
open Go.RowKit

abbrev Tab (w : World) : Prop := Lib.TabIs Tryz.prog w "internal/strconv.uint64pow10" .u64 Lib.pow10Tab
theorem tab_below {w w1 : World} (h : Tab w) (hb : Below w.heap.size w w1) : Tab w1 := by
  unfold Tab Lib.TabIs World.var? at *
  cases hg : Tryz.prog.globalNamed "internal/strconv.uint64pow10" with
  | none => simp [hg] at h
  | some g =>
    simp only [hg, Option.bind_some] at h ⊢
    have hlt : g < w.heap.size := by
      rcases Nat.lt_or_ge g w.heap.size with h' | h'
      · exact h'
      · rw [Array.getElem?_eq_none h'] at h; simp at h
    rw [hb.block g hlt]
    exact h

/-- What the texts of values need of the package-level variables. -/
def HandT (w : World) : Prop := Hand w ∧ Tab w
theorem HandT.below {w w1 : World} (h : HandT w) (hb : Below w.heap.size w w1) : HandT w1 := ⟨h.1.below hb, tab_below h.2 hb⟩

def itoaS (n : Int) : ByteArray := ⟨(Lib.itoa n).toArray⟩
theorem itoaS_len (n : Int) (h0 : -9223372036854775808 ≤ n) (h1 : n ≤ 9223372036854775807) : (itoaS n).size ≤ 21 := Lib.itoa_length_le n h0 h1

theorem below_app {w w1 : World} (h : Below w.heap.size w w1) (os : Array Obj) : Below w.heap.size w (Sort.grow w1 os) :=
  ⟨h.os, h.tape, h.output, Nat.le_trans h.size (by simp), fun k hk => (Sort.heap_grow_old w1 os (Nat.lt_of_lt_of_le hk h.size)).trans (h.block k hk)⟩
theorem below_grow {w : World} (k : Nat) (os : Array Obj) : Below w.heap.size w (Sort.grow (w.drewN k) os) := below_app (_root_.Go.below_drewN (Below.refl _ _) k) os

theorem itoa_any (n : Int) (w : World) (h0 : -9223372036854775808 ≤ n) (h1 : n ≤ 9223372036854775807) (ht : Tab w) : Calls Tryz.prog 93 #[.int .i64 n] w fun e w' => e = .returned (.string (itoaS n)) ∧ Below w.heap.size w w' := by
  refine (Tryz.strconv_Itoa n h0 h1 w ht).mono ?_
  rintro e w' ⟨rfl, k, os, rfl⟩
  exact ⟨rfl, below_grow k os⟩

abbrev unitS : ByteArray := ⟨#[117, 110, 105, 116]⟩
abbrev falseS : ByteArray := ⟨#[102, 97, 108, 115, 101]⟩
abbrev taskS : ByteArray := ⟨#[116, 97, 115, 107]⟩
abbrev lockS : ByteArray := ⟨#[108, 111, 99, 107]⟩
/-- The word of a handle. -/
def wordS (k : Int) : ByteArray := if k = 4 then chanS else if k = 5 then taskS else lockS
/-- The text of a valid value. -/
def showS (k n : Int) (s : ByteArray) : ByteArray :=
  if k = 0 then unitS else if k = 1 then itoaS n else if k = 2 then (if n = 1 then trueS else falseS) else if k = 3 then quoS s else wordS k ++ ⟨#[35]⟩ ++ itoaS n

theorem nil_of {s : ByteArray} (h : (s.toList == []) = true) : s = noS := by
  have h1 : s.data.toList = [] := by rw [← ByteArray.toList_eq]; exact beq_iff_eq.1 h
  apply ByteArray.ext
  exact Array.toList_inj.1 h1

set_option maxRecDepth 100000 in
set_option maxHeartbeats 1000000 in
theorem show_0 (n : Int) (s : ByteArray) (w : World) : Calls Tryz.prog 58 #[valV 0 n s] w fun e w' => e = .returned (.string unitS) ∧ Below w.heap.size w w' := by
  go_enter Tryz.func58, Tryz.ntmps58
  go_wp2
  go_ret
  exact ⟨rfl, one _ _⟩

set_option maxRecDepth 100000 in
set_option maxHeartbeats 1000000 in
theorem show_1 (n : Int) (s : ByteArray) (w : World) (h1 : -1000000000000 ≤ n) (h2 : n ≤ 1000000000000) (ht : Tab w) : Calls Tryz.prog 58 #[valV 1 n s] w fun e w' => e = .returned (.string (itoaS n)) ∧ Below w.heap.size w w' := by
  have I := Lib.hid (fun w1 (hw : Below w.heap.size w w1) => itoa_any n w1 (by omega) (by omega) (tab_below ht hw))
  clear ht
  go_enter Tryz.func58, Tryz.ntmps58
  go_wp2_with (go_at_call 93; refine (I.out _ (one _ _)).mono ?_; rintro e w1 ⟨rfl, hb⟩)
  go_ret
  exact ⟨rfl, (grown hb).1⟩

set_option maxRecDepth 100000 in
set_option maxHeartbeats 1000000 in
theorem show_2f (w : World) : Calls Tryz.prog 58 #[valV 2 0 noS] w fun e w' => e = .returned (.string falseS) ∧ Below w.heap.size w w' := by
  go_enter Tryz.func58, Tryz.ntmps58
  go_wp2
  go_region_with (go_at_call 79; refine (truth_any _ _).mono ?_; rintro e w2 ⟨rfl, hb2⟩; have hbb := Lib.hid (new1_then (n := 1) hb2); obtain ⟨hc2, hf2⟩ := bcell hb2)
  all_goals (go_wp2; go_ret)
  all_goals exact ⟨rfl, hbb.out⟩

set_option maxRecDepth 100000 in
set_option maxHeartbeats 1000000 in
theorem show_3 (n : Int) (s : ByteArray) (w : World) (hs : s.size ≤ 1000) : Calls Tryz.prog 58 #[valV 3 n s] w fun e w' => e = .returned (.string (quoS s)) ∧ Below w.heap.size w w' := by
  have Q := Lib.hid (fun w1 => quo_any s w1 hs)
  generalize quoS s = q at Q ⊢
  go_enter Tryz.func58, Tryz.ntmps58
  go_wp2_with (go_at_call 94; refine (Q.out _).mono ?_; rintro e w1 ⟨rfl, hb⟩)
  go_ret
  exact ⟨rfl, (grown hb).1⟩

set_option maxRecDepth 100000 in
set_option maxHeartbeats 1000000 in
theorem show_4 (k n : Int) (wd : ByteArray) (s : ByteArray) (w : World) (hk : k = 4 ∨ k = 5 ∨ k = 6) (h1 : -1000000000000 ≤ n) (h2 : n ≤ 1000000000000) (ht : Tab w) (hw : wd.size ≤ 100)
    (hc : w.cell? ⟨1, k.toNat, none⟩ = some (.string wd)) : Calls Tryz.prog 58 #[valV k n s] w fun e w' => e = .returned (.string (wd ++ ⟨#[35]⟩ ++ itoaS n)) ∧ Below w.heap.size w w' := by
  have I := Lib.hid (fun w1 (hw : Below w.heap.size w w1) => itoa_any n w1 (by omega) (by omega) (tab_below ht hw))
  have hl := itoaS_len n (by omega) (by omega)
  generalize itoaS n = q at I hl ⊢
  have hlt := World.block_lt_of_cell? _ _ hc
  have n1 : ¬ 9223372036854775807 < wd.size + 1 := by omega
  have n2 : ¬ 9223372036854775807 < wd.size + 1 + q.size := by omega
  clear ht hw hl
  rcases hk with rfl | rfl | rfl <;>
  · simp only [Int.reduceToNat] at hc
    go_enter Tryz.func58, Tryz.ntmps58
    go_wp2
    go_region_with (go_at_call 93; refine (I.out _ (_root_.Go.below_drewN (one _ _) _)).mono ?_; rintro e w2 ⟨rfl, hb2⟩; have hbb := Lib.hid (new1_then hb2); obtain ⟨hc2, hf2⟩ := bcell hb2; have hc3 := cell_of hbb.out hc)
    all_goals (go_wp2; go_ret)
    all_goals exact ⟨rfl, hbb.out⟩
end Go.Proofs.YtjacdlglbjnoeaaGreatDoor
