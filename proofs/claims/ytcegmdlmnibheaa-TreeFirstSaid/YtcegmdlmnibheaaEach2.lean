/- The numbers of the tasks of a scope. -/
import Derived.Test.YtcegmdlmnibheaaEach
namespace Go.Proofs.Ytcegmdlmnibheaa
set_option linter.unusedVariables false
set_option linter.unusedSimpArgs false
open Go.RowKit
section
variable {w : World} {own : Own} {tb : Nat} {L : Lay} {t : Tr.T}
set_option maxRecDepth 100000 in
theorem number_any (h : Rep w own tb L t) {i : Nat} (hi : i < t.ts.length) : Calls Try.prog 99 #[tkP L i] w (same w (.int .i64 ((i : Int) + 1))) := by
  have hB := (h.tk i _ (List.getElem?_eq_getElem hi)).blk
  have c0 := hB.cell 0 _ rfl
  unfold same tkP
  clear h hB
  go_enter Try.func99, Try.ntmps99
  go_wp2
  go_ret
  exact ⟨rfl, rfl⟩
def numC (i : Nat) : List Value := [.int .i64 ((i : Int) + 1)]
def NumsRow (W0 W : World) (v : Value) (l : List Nat) : Prop := W.ownsRow W0.heap.size 3 1 v l.length (l.flatMap numC) ∧ Below W0.heap.size W0 W
set_option maxRecDepth 100000 in
set_option maxHeartbeats 4000000 in
theorem nums_any (h : Rep w own tb L t) (l : List Nat) (p : Option Addr) (cap : Nat) (hl : l.length ≤ 1000) (hlc : l.length ≤ cap) (hrg : ∀ i, i ∈ l → i < t.ts.length)
    (hc : ∀ k i, l[k]? = some i → ∃ g, p = some ⟨g, 0, none⟩ ∧ g < w.heap.size ∧ w.cell? ⟨g, k, none⟩ = some (tkP L i)) :
    Calls Try.prog 98 #[.slice p l.length cap, .func (.func 99) #[] #[]] w fun e w' => ∃ q cq, e = .returned (.slice q l.length cq) ∧ l.length ≤ cq ∧ cq ≤ maxLen ∧ NumsRow w w' (.slice q l.length cq) l := by
  have HH := Lib.hid h
  have HC := Lib.hid hc
  have HG := Lib.hid hrg
  obtain ⟨n, hn⟩ : ∃ n, n = l.length := ⟨_, rfl⟩
  have HN := Lib.hid hn
  rw [← hn] at hl hlc ⊢
  obtain ⟨i0, hi, hz0, hz1, hz2⟩ := info_parts info3
  have HI := Lib.hid hi; have HZ0 := Lib.hid hz0; have HZ1 := Lib.hid hz1; have HZ2 := Lib.hid hz2
  have hml : (2000000 : Nat) ≤ maxLen := by decide
  clear h hc hrg hn hi hz0 hz1 hz2
  go_enter Try.func98, Try.ntmps98
  go_wp2_with fail
  go_loopw [5, 10] (fun v i wr => ∃ (k : Nat) (pv : Option Addr) (cv : Nat), k ≤ n ∧ i = .int .i64 k ∧ v = .slice pv k cv ∧ k ≤ cv ∧ cv ≤ maxLen ∧ NumsRow w wr (.slice pv k cv) (l.take k)) (fun _ i _ => n - (intOf i).toNat)
  case atStart => exact ⟨0, none, 0, Nat.zero_le _, rfl, rfl, Nat.le_refl _, Nat.zero_le _, by simpa using World.ownsRow_nil w w.heap.size 3 1, Below.refl _ _⟩
  case round =>
    obtain ⟨k, pv, cv, hk, rfl, rfl, hv1, hv2, hT⟩ := hrel
    have hlk : (l.take k).length = k := by rw [List.length_take]; have := HN.out; omega
    unfold NumsRow at hT
    rw [hlk] at hT
    have HT := Lib.hid hT
    by_cases hlt : k < n
    · obtain ⟨s, hs⟩ : ∃ s, l[k]? = some s := ⟨_, List.getElem?_eq_getElem (by have := HN.out; omega)⟩
      obtain ⟨g, rfl, hg, hcell⟩ := HC.out k s hs
      have hck : wr.cell? ⟨g, k, none⟩ = some (tkP L s) := cell_of hT.2 hcell
      have hsz := hT.2.size
      have LK := Lib.hid (number_any (HH.out.below hT.2) (HG.out s (List.mem_of_getElem? hs)))
      unfold same tkP at LK
      have HS := Lib.hid hs
      unfold tkP at hck
      clear hT hs hcell
      go_wp2_with fail
      refine LK.out.mono ?_
      rintro e wc ⟨rfl, rfl⟩
      have t1 : k + 1 ≤ maxLen := by omega
      have t2 : (k + 1) * 8 ≤ 140737488355328 := by omega
      have t3 : w.heap.size ≤ (wr.alloc (.cells #[.int .i64 ((s : Int) + 1)] 3)).heap.size := by simp; omega
      clear LK
      go_wp2_with (at_builtin; refine wpList_append_own_at (wr.alloc (.cells #[.int .i64 ((s : Int) + 1)] 3)) (by rfl) (.tmp 14) (.tmp 18) 55 (by rfl) w.heap.size 3 i0 _ 1 8 Try.underlying55 HI.out HZ0.out HZ1.out HZ2.out (by rfl) (by decide) (.slice pv k cv) k ((l.take k).flatMap numC) (by rfl) (HT.out.1.alloc _) ⟨wr.heap.size, 0, none⟩ 1 1 [.int .i64 ((s : Int) + 1)] (by rfl) (by rfl) (cell_one_new _ _ _) (by simp [Value.oneCell']) t1 t2 t3 ?_)
      intro v5 w5 hown5 hG5 _ hat5
      obtain ⟨g5, cp5, rfl⟩ := ownsRow_succ hown5
      have hcp5 : k + 1 ≤ cp5 ∧ cp5 ≤ maxLen := by
        rcases hown5.2 with ⟨e, _⟩ | ⟨g', cap', cur, e, h1, h2, h3, h4, h5⟩
        · cases e
        · cases e; exact ⟨h3, h4⟩
      have HCP := Lib.hid hcp5
      have HT5 : Hid (NumsRow w w5 (.slice (some ⟨g5, 0, none⟩) (k + 1) cp5) (l.take (k + 1))) := Lib.hid ⟨by
        have e1 : (l.take (k + 1)).length = k + 1 := by rw [List.length_take]; have := HN.out; omega
        rw [e1, flat_snoc numC HS.out]; exact hown5, (HT.out.2.alloc hsz _).grown hG5 (by simp; omega) (fun b e => (HT.out.1.lt b e).1)⟩
      clear hown5 hG5 hat5 t1 t2 t3 hcp5
      go_wp2
      go_roundw
      case rel => exact ⟨k + 1, some ⟨g5, 0, none⟩, cp5, by omega, by go_num, rfl, HCP.out.1, HCP.out.2, HT5.out⟩
      case measure => simp [intOf]; omega
    · obtain rfl : k = n := by omega
      have HF : Hid (NumsRow w wr (.slice pv k cv) l) := Lib.hid (by
        have e1 : l.take k = l := by rw [HN.out, List.take_length]
        have := HT.out
        rw [e1] at this
        exact ⟨by rw [← HN.out]; exact this.1, this.2⟩)
      clear hT
      go_wp2
      go_ret
      exact ⟨_, _, rfl, hv1, hv2, HF.out⟩
end
end Go.Proofs.Ytcegmdlmnibheaa
