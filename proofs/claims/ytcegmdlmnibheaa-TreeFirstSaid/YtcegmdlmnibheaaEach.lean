/- The state of a task and of a scope: the lists that are made of the lists. -/
import Derived.Test.YtcegmdlmnibheaaFinAny
namespace Go.Proofs.Ytcegmdlmnibheaa
set_option linter.unusedVariables false
set_option linter.unusedSimpArgs false
open Go.RowKit
/-- A link as it is shown: kind and number. -/
def lnC : Option Nat → List Value
  | none => [.int .i64 3, .int .i64 0]
  | some j => [.int .i64 2, .int .i64 ((j : Int) + 1)]
def lnV : Option Nat → Value
  | none => .agg #[.int .i64 3, .int .i64 0]
  | some j => .agg #[.int .i64 2, .int .i64 ((j : Int) + 1)]
theorem info72 : (Try.prog.info? 72).map (fun i => (i.zero, i.size, i.bytes)) = some (some (.agg #[.int .i64 0, .int .i64 0]), 2, 16) := by kernel_rfl
theorem info3 : (Try.prog.info? 3).map (fun i => (i.zero, i.size, i.bytes)) = some (some (.int .i64 0), 1, 8) := by kernel_rfl
section
variable {w : World} {own : Own} {tb : Nat} {L : Lay} {t : Tr.T}
set_option maxRecDepth 100000 in
theorem link_any (h : Rep w own tb L t) (s : Option Nat) (hs : ∀ j, s = some j → j < t.ss.length) : Calls Try.prog 66 #[scP L s] w (still w (lnV s)) := by
  unfold still
  cases s with
  | none =>
    unfold scP lnV
    clear h hs
    go_enter Try.func66, Try.ntmps66
    go_wp2
    refine bodyPost_ret (v := .agg #[.int .i64 3, .int .i64 0]) (by simp [results, Try.results66, go_sem]) rfl ⟨rfl, one _ _⟩
  | some j =>
    have hB := (h.sc j _ (List.getElem?_eq_getElem (hs j rfl))).blk
    have c0 := hB.cell 0 _ rfl
    have hlt := hB.lt
    unfold scP lnV
    clear h hs hB
    go_enter Try.func66, Try.ntmps66
    go_wp2
    refine bodyPost_ret (v := .agg #[.int .i64 2, .int .i64 ((j : Int) + 1)]) (by simp [results, Try.results66, go_sem]) rfl ⟨rfl, one _ _⟩

def LinksRow (W0 W : World) (v : Value) (l : List (Option Nat)) : Prop := W.ownsRow W0.heap.size 72 2 v l.length (l.flatMap lnC) ∧ Below W0.heap.size W0 W
theorem lnC_len : ∀ l : List (Option Nat), (l.flatMap lnC).length = l.length * 2
  | [] => rfl
  | s :: r => by cases s <;> simp [lnC, lnC_len r] <;> omega
theorem cells2_new (w : World) (a b : Int) : ∀ j u, [Value.int .i64 a, .int .i64 b][j]? = some u → (w.alloc (.cells #[.int .i64 a, .int .i64 b] 72)).cell? ((⟨w.heap.size, 0, none⟩ : Addr).add j) = some u := by
  intro j u hj
  rw [add_off]
  have := (Blk.new w #[.int .i64 a, .int .i64 b] 72).cell j u hj
  simpa using this
def lnK : Option Nat → Int | none => 3 | some _ => 2
def lnN : Option Nat → Int | none => 0 | some j => (j : Int) + 1
theorem lnV_eq (s : Option Nat) : lnV s = .agg #[.int .i64 (lnK s), .int .i64 (lnN s)] := by cases s <;> rfl
theorem lnC_eq (s : Option Nat) : lnC s = [.int .i64 (lnK s), .int .i64 (lnN s)] := by cases s <;> rfl
theorem flat_snoc {α : Type} (f : α → List Value) {l : List α} {k : Nat} {x : α} (h : l[k]? = some x) : (l.take (k + 1)).flatMap f = (l.take k).flatMap f ++ f x := by
  have hk := List.getElem?_eq_some_iff.1 h
  rw [List.take_succ_eq_append_getElem hk.1, hk.2, List.flatMap_append]; simp

set_option maxRecDepth 100000 in
set_option maxHeartbeats 4000000 in
theorem links_any (h : Rep w own tb L t) (l : List (Option Nat)) (p : Option Addr) (cap : Nat) (hl : l.length ≤ 1000) (hlc : l.length ≤ cap) (hrg : ∀ j, some j ∈ l → j < t.ss.length)
    (hc : ∀ k s, l[k]? = some s → ∃ g, p = some ⟨g, 0, none⟩ ∧ g < w.heap.size ∧ w.cell? ⟨g, k, none⟩ = some (scP L s)) :
    Calls Try.prog 97 #[.slice p l.length cap, .func (.func 66) #[] #[]] w fun e w' => ∃ q cq, e = .returned (.slice q l.length cq) ∧ l.length ≤ cq ∧ cq ≤ maxLen ∧ LinksRow w w' (.slice q l.length cq) l := by
  have HH := Lib.hid h
  have HC := Lib.hid hc
  have HG := Lib.hid hrg
  obtain ⟨n, hn⟩ : ∃ n, n = l.length := ⟨_, rfl⟩
  have HN := Lib.hid hn
  rw [← hn] at hl hlc ⊢
  obtain ⟨i0, hi, hz0, hz1, hz2⟩ := info_parts info72
  have HI := Lib.hid hi; have HZ0 := Lib.hid hz0; have HZ1 := Lib.hid hz1; have HZ2 := Lib.hid hz2
  have hml : (2000000 : Nat) ≤ maxLen := by decide
  clear h hc hrg hn hi hz0 hz1 hz2
  go_enter Try.func97, Try.ntmps97
  go_wp2_with fail
  go_loopw [5, 10] (fun v i wr => ∃ (k : Nat) (pv : Option Addr) (cv : Nat), k ≤ n ∧ i = .int .i64 k ∧ v = .slice pv k cv ∧ k ≤ cv ∧ cv ≤ maxLen ∧ LinksRow w wr (.slice pv k cv) (l.take k)) (fun _ i _ => n - (intOf i).toNat)
  case atStart => exact ⟨0, none, 0, Nat.zero_le _, rfl, rfl, Nat.le_refl _, Nat.zero_le _, by simpa using World.ownsRow_nil w w.heap.size 72 2, Below.refl _ _⟩
  case round =>
    obtain ⟨k, pv, cv, hk, rfl, rfl, hv1, hv2, hT⟩ := hrel
    have hlk : (l.take k).length = k := by rw [List.length_take]; have := HN.out; omega
    unfold LinksRow at hT
    rw [hlk] at hT
    have HT := Lib.hid hT
    by_cases hlt : k < n
    · obtain ⟨s, hs⟩ : ∃ s, l[k]? = some s := ⟨_, List.getElem?_eq_getElem (by have := HN.out; omega)⟩
      obtain ⟨g, rfl, hg, hcell⟩ := HC.out k s hs
      have hck : wr.cell? ⟨g, k, none⟩ = some (scP L s) := cell_of hT.2 hcell
      have hsz := hT.2.size
      have LK := Lib.hid (link_any (HH.out.below hT.2) s (fun j e => HG.out j (by rw [← e]; exact List.mem_of_getElem? hs)))
      unfold still at LK
      rw [lnV_eq] at LK
      have HS := Lib.hid hs
      have hpq : ∃ q, scP L s = .pointer q := by cases s <;> exact ⟨_, rfl⟩
      obtain ⟨q, hq⟩ := hpq
      rw [hq] at hck LK
      clear hT hs hcell hq
      go_wp2_with fail
      refine LK.out.mono ?_
      rintro e wc ⟨rfl, hb⟩
      have hrow : wc.ownsRow w.heap.size 72 2 (.slice pv k cv) k ((l.take k).flatMap lnC) := owns_fr HT.out.1 (Fr.of_below hb : Fr none_ _ _) (fun _ _ h => h.elim)
      have HROW := Lib.hid hrow
      have HBL := Lib.hid (HT.out.2.trans (hb.mono hsz))
      have hsz2 := HBL.out.size
      have t1 : k + 1 ≤ maxLen := by omega
      have t2 : (k + 1) * 16 ≤ 140737488355328 := by omega
      have t3 : w.heap.size ≤ (wc.alloc (.cells #[.int .i64 (lnK s), .int .i64 (lnN s)] 72)).heap.size := by simp; omega
      clear hb hrow LK
      go_wp2_with (at_builtin; refine wpList_append_own_at (wc.alloc (.cells #[.int .i64 (lnK s), .int .i64 (lnN s)] 72)) (by rfl) (.tmp 14) (.tmp 18) 50 (by rfl) w.heap.size 72 i0 _ 2 16 Try.underlying50 HI.out HZ0.out HZ1.out HZ2.out (by rfl) (by decide) (.slice pv k cv) k ((l.take k).flatMap lnC) (by rfl) (HROW.out.alloc _) ⟨wc.heap.size, 0, none⟩ 1 1 [.int .i64 (lnK s), .int .i64 (lnN s)] (by rfl) (by rfl) (cells2_new _ _ _) (by simp [Value.oneCell']) t1 t2 t3 ?_)
      intro v5 w5 hown5 hG5 _ hat5
      obtain ⟨g5, cp5, rfl⟩ := ownsRow_succ hown5
      have hcp5 : k + 1 ≤ cp5 ∧ cp5 ≤ maxLen := by
        rcases hown5.2 with ⟨e, _⟩ | ⟨g', cap', cur, e, h1, h2, h3, h4, h5⟩
        · cases e
        · cases e; exact ⟨h3, h4⟩
      have HCP := Lib.hid hcp5
      have HT5 : Hid (LinksRow w w5 (.slice (some ⟨g5, 0, none⟩) (k + 1) cp5) (l.take (k + 1))) := Lib.hid ⟨by
        have e1 : (l.take (k + 1)).length = k + 1 := by rw [List.length_take]; have := HN.out; omega
        rw [e1, flat_snoc lnC HS.out, lnC_eq s]; exact hown5, (HBL.out.alloc hsz2 _).grown hG5 (by simp; omega) (fun b e => (HROW.out.lt b e).1)⟩
      clear hown5 hG5 hat5 t1 t2 t3 hcp5
      go_wp2
      go_roundw
      case rel => exact ⟨k + 1, some ⟨g5, 0, none⟩, cp5, by omega, by go_num, rfl, HCP.out.1, HCP.out.2, HT5.out⟩
      case measure => simp [intOf]; omega
    · obtain rfl : k = n := by omega
      have HF : Hid (LinksRow w wr (.slice pv k cv) l) := Lib.hid (by
        have e1 : l.take k = l := by rw [HN.out, List.take_length]
        have := HT.out
        rw [e1] at this
        exact ⟨by rw [← HN.out]; exact this.1, this.2⟩)
      clear hT
      go_wp2
      go_ret
      exact ⟨_, _, rfl, hv1, hv2, HF.out⟩
end
end Go.Proofs.Ytcegmdlmnibheaa
