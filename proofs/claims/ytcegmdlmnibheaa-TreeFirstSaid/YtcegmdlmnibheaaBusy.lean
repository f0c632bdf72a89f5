/- Which tasks of a scope run. -/
import Derived.Test.YtcegmdlmnibheaaShields
namespace Go.Proofs.Ytcegmdlmnibheaa
set_option linter.unusedVariables false
set_option linter.unusedSimpArgs false
open Go.RowKit

section
variable {w : World} {own : Own} {tb : Nat} {L : Lay} {t : Tr.T}
theorem info101 : (Try.prog.info? 101).map (fun i => (i.zero, i.size, i.bytes)) = some (some (.pointer none), 1, 8) := by kernel_rfl
theorem info104 : (Try.prog.info? 104).map (fun i => (i.zero, i.size, i.bytes)) = some (some (.pointer none), 1, 8) := by kernel_rfl
theorem cell_one_new (w : World) (x : Value) (t : TypeId) : ∀ j u, [x][j]? = some u → (w.alloc (.cells #[x] t)).cell? ((⟨w.heap.size, 0, none⟩ : Addr).add j) = some u := by
  intro j u hj
  match j, hj with
  | 0, hj => simp at hj; subst hj; rw [add_off]; exact World.cell?_alloc_at _ _ _ _ rfl

def bzL (t : Tr.T) (l : List Nat) (k : Nat) : List Nat := Tr.busyL t (l.take k)
theorem bzL_le (t : Tr.T) (l : List Nat) (k : Nat) : (bzL t l k).length ≤ k := by
  unfold bzL Tr.busyL
  exact Nat.le_trans (List.length_filter_le _ _) (List.length_take_le k l)
theorem bzL_yes {l : List Nat} {k i : Nat} {x : Tr.Tk} (h : l[k]? = some i) (hx : t.ts[i]? = some x) (hd : x.done = false) : bzL t l (k + 1) = bzL t l k ++ [i] := by
  unfold bzL Tr.busyL
  have hk := (List.getElem?_eq_some_iff.1 h)
  rw [List.take_succ_eq_append_getElem hk.1, List.filter_append, hk.2]
  simp [hx, hd]
theorem bzL_no {l : List Nat} {k i : Nat} {x : Tr.Tk} (h : l[k]? = some i) (hx : t.ts[i]? = some x) (hd : x.done = true) : bzL t l (k + 1) = bzL t l k := by
  unfold bzL Tr.busyL
  have hk := (List.getElem?_eq_some_iff.1 h)
  rw [List.take_succ_eq_append_getElem hk.1, List.filter_append, hk.2]
  simp [hx, hd]

/-- A list of pointers to tasks, in new memory. -/
def TkRow (W0 W : World) (L : Lay) (v : Value) (l : List Nat) : Prop := W.ownsRow W0.heap.size 101 1 v l.length (l.map (tkP L)) ∧ Below W0.heap.size W0 W

set_option maxRecDepth 100000 in
set_option maxHeartbeats 2000000 in
theorem running_any (h : Rep w own tb L t) {j : Nat} {y : Tr.Sc} (hy : t.ss[j]? = some y) (hl20 : y.tks.length ≤ 1000000) :
    Calls Try.prog 69 #[scP L (some j)] w fun e w' => ∃ p cap, e = .returned (.slice p (Tr.busyL t y.tks).length cap) ∧ (Tr.busyL t y.tks).length ≤ cap ∧ cap ≤ maxLen ∧ TkRow w w' L (.slice p (Tr.busyL t y.tks).length cap) (Tr.busyL t y.tks) := by
  obtain ⟨p, cap, e, h1, h2, h3⟩ := (h.sc j y hy).form
  have c := (h.sc j y hy).blk.cell 6 _ rfl
  rw [e] at c
  have hml : (2000000 : Nat) ≤ maxLen := by decide
  unfold scP
  obtain ⟨l, hl⟩ : ∃ l, l = y.tks.length := ⟨_, rfl⟩
  rw [← hl] at c h1 h3 hl20
  have HL := Lib.hid hl
  have H3 := Lib.hid h3
  have HR := Lib.hid h
  have HY := Lib.hid hy
  have HB : Hid (Tr.busyL t y.tks = bzL t y.tks l) := Lib.hid (by unfold bzL; rw [hl, List.take_length])
  rw [HB.out]
  have H2 := Lib.hid h2
  have h2' : cap ≤ 9223372036854775807 := by unfold maxLen at h2; omega
  have hcb := (h.sc j y hy).blk.lt
  obtain ⟨i0, hi, hz0, hz1, hz2⟩ := info_parts info101
  have HI := Lib.hid hi; have HZ0 := Lib.hid hz0; have HZ1 := Lib.hid hz1; have HZ2 := Lib.hid hz2
  clear h hy e h3 hl h2 hi hz0 hz1 hz2
  go_enter Try.func69, Try.ntmps69
  go_wp2_with fail
  go_loopw [3, 13] (fun v i wr => ∃ k : Nat, k ≤ l ∧ i = .int .i64 k ∧ TkRow w wr L v (bzL t y.tks k)) (fun _ i _ => l - (intOf i).toNat)
  case atStart => exact ⟨0, Nat.zero_le _, rfl, by simpa [bzL, Tr.busyL] using World.ownsRow_nil w w.heap.size 101 1, Below.refl _ _⟩
  case round =>
    obtain ⟨k, hk, rfl, hT⟩ := hrel
    have HT := Lib.hid hT
    obtain ⟨pv, cv, ev, hv1, hv2, -⟩ := owns_form hT.1
    subst ev
    have hbl := bzL_le t y.tks k
    by_cases hlt : k < l
    · obtain ⟨i, hs⟩ : ∃ i, y.tks[k]? = some i := ⟨_, List.getElem?_eq_getElem (by have := HL.out; omega)⟩
      have hi := HR.out.rng.tks j y i HY.out (List.mem_of_getElem? hs)
      obtain ⟨x, hx⟩ : ∃ x, t.ts[i]? = some x := ⟨_, List.getElem?_eq_getElem hi⟩
      obtain ⟨g, rfl, hg, hc⟩ := H3.out (by omega)
      have hb := hT.2
      have ck : wr.cell? ⟨g, k, none⟩ = some (tkP L i) := cell_of hb (hc k i hs)
      have cd : wr.cell? ⟨L.tk i, 1, none⟩ = some (.bool x.done) := cell_of hb ((HR.out.tk i x hx).blk.cell 1 _ rfl)
      have hsz := hb.size
      unfold tkP at ck
      obtain ⟨m, hm⟩ : ∃ m, m = (bzL t y.tks k).length := ⟨_, rfl⟩
      rw [← hm] at HT hv1 hbl
      rw [← hm]
      have HM := Lib.hid hm
      cases hd : x.done with
      | true =>
        have HN := Lib.hid (bzL_no hs hx hd)
        rw [hd] at cd
        have HF : Hid (TkRow w wr L (.slice pv m cv) (bzL t y.tks (k + 1))) := Lib.hid (by rw [HN.out]; exact hT |> fun h => by rw [← hm] at h; exact h)
        clear hc hs hT hm hx hd hb hi
        go_wp2
        go_roundw
        case rel => exact ⟨k + 1, by omega, by go_num, HF.out⟩
        case measure => simp [intOf]; omega
      | false =>
        have HN := Lib.hid (bzL_yes hs hx hd)
        rw [hd] at cd
        have hrow : wr.ownsRow w.heap.size 101 1 (.slice pv m cv) m ((bzL t y.tks k).map (tkP L)) := by have := hT.1; rw [← hm] at this; exact this
        have HROW := Lib.hid hrow
        have HBL := Lib.hid hb
        clear hc hs hT hm hx hd hb hrow hi
        have t1 : m + 1 ≤ maxLen := by omega
        have t2 : (m + 1) * 8 ≤ 140737488355328 := by omega
        have t3 : w.heap.size ≤ (wr.alloc (.cells #[.pointer (some ⟨L.tk i, 0, none⟩)] 101)).heap.size := by simp; omega
        have t4 : ∀ u ∈ [Value.pointer (some ⟨L.tk i, 0, none⟩)], u.oneCell' = true := by simp [Value.oneCell']
        go_wp2_with (at_builtin; refine wpList_append_own_at (wr.alloc (.cells #[.pointer (some ⟨L.tk i, 0, none⟩)] 101)) (by rfl) (.tmp 23) (.tmp 25) 85 (by rfl) w.heap.size 101 i0 (.pointer none) 1 8 Try.underlying85 HI.out HZ0.out HZ1.out HZ2.out (by rfl) (by decide) (.slice pv m cv) m ((bzL t y.tks k).map (tkP L)) (by rfl) (HROW.out.alloc _) ⟨wr.heap.size, 0, none⟩ 1 1 [.pointer (some ⟨L.tk i, 0, none⟩)] (by rfl) (by rfl) (cell_one_new _ _ _) t4 t1 t2 t3 ?_)
        intro v5 w5 hown5 hG5 _ hat5
        obtain ⟨p5, cp5, e5, h51, h52, -⟩ := owns_form hown5
        subst e5
        have HT5 : Hid (TkRow w w5 L (.slice p5 (m + 1) cp5) (bzL t y.tks (k + 1))) := Lib.hid ⟨by rw [HN.out]; simpa [← HM.out] using hown5, (HBL.out.alloc hsz _).grown hG5 (by simp; omega) (fun b e => (HROW.out.lt b e).1)⟩
        clear hown5 hG5 hat5 t1 t2 t3 t4
        go_wp2
        have HM5 : Hid ((bzL t y.tks (k + 1)).length = m + 1) := Lib.hid (by rw [HN.out, HM.out]; simp)
        go_roundw
        case rel => exact ⟨k + 1, by omega, by go_num, HT5.out⟩
        case measure => simp [intOf]; omega
    · obtain rfl : k = l := by omega
      clear hT
      go_wp2
      go_ret
      exact ⟨_, _, rfl, hv1, hv2, HT.out⟩

set_option maxRecDepth 100000 in
theorem busy_any (h : Rep w own tb L t) {j : Nat} {y : Tr.Sc} (hy : t.ss[j]? = some y) (hl20 : y.tks.length ≤ 1000000) :
    Calls Try.prog 61 #[scP L (some j)] w (still w (.bool (Tr.busy t y))) := by
  have A := Lib.hid (running_any h hy hl20)
  unfold still Tr.busy
  unfold scP at *
  generalize Tr.busyL t y.tks = l at *
  clear h hy hl20
  cases l with
  | nil =>
    go_enter Try.func61, Try.ntmps61
    go_wp2_with fail
    refine A.out.mono ?_
    rintro e w2 ⟨p, cap, rfl, h1, h2, h3⟩
    have HB := Lib.hid h3.2
    clear h3
    go_wp2
    go_ret
    exact ⟨rfl, HB.out⟩
  | cons a r =>
    go_enter Try.func61, Try.ntmps61
    go_wp2_with fail
    refine A.out.mono ?_
    rintro e w2 ⟨p, cap, rfl, h1, h2, h3⟩
    have HB := Lib.hid h3.2
    clear h3
    have : (0 : Int) < ((a :: r).length : Nat) := by simp
    go_wp2
    go_ret
    exact ⟨rfl, HB.out⟩
end
end Go.Proofs.Ytcegmdlmnibheaa
