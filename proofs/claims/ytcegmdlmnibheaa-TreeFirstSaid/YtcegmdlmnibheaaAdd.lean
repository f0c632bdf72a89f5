/- A task more. -/
import Derived.Test.YtcegmdlmnibheaaGrow
namespace Go.Proofs.Ytcegmdlmnibheaa
set_option linter.unusedVariables false
set_option linter.unusedSimpArgs false
open Go.RowKit
section
variable {w : World} {own : Own} {tb : Nat} {L : Lay} {t : Tr.T}
set_option maxRecDepth 100000 in
theorem add_full (h : Rep w own tb L t) (q : Option Addr) (hf : 64 ≤ t.ts.length) (hq : t.ts.length ≤ 1000000) : Calls Try.prog 39 #[ptr tb, .pointer q] w (same w (.tuple #[.int .i64 0, .int .i64 5])) := by
  obtain ⟨p, cap, e, h1, h2, h3⟩ := h.tform
  have c0 := h.blk.cell 0 _ rfl
  rw [e] at c0
  have hf' : (64 : Int) ≤ (t.ts.length : Int) := by omega
  have hf2 : ((t.ts.length : Int) ≥ 64) = True := by simp; omega
  unfold same
  generalize t.ts.length = l at *
  clear h e h3
  go_enter Try.func39, Try.ntmps39
  go_wp2
  go_ret2
  exact ⟨rfl, rfl⟩
theorem cell_one_new2 (w : World) (o : Obj) (x : Value) (t : TypeId) : ∀ j u, [x][j]? = some u → ((w.alloc o).alloc (.cells #[x] t)).cell? ((⟨w.heap.size + 1, 0, none⟩ : Addr).add j) = some u := by
  have := cell_one_new (w.alloc o) x t
  rwa [World.size_alloc] at this
set_option maxRecDepth 100000 in
set_option maxHeartbeats 4000000 in
theorem add_any (h : Rep w own tb L t) (s : Option Nat) (hs : ∀ j, s = some j → j < t.ss.length) (hks : ∀ (j : Nat) (y : Tr.Sc), t.ss[j]? = some y → y.tks.length ≤ 1000000) (hf : t.ts.length < 64) :
    Calls Try.prog 39 #[ptr tb, scP L s] w fun e w' => e = .returned (.tuple #[.int .i64 ((t.ts.length : Int) + 1), .int .i64 0]) ∧ Gone w own tb (Tr.hook (Tr.addT t s) s t.ts.length) w' := by
  obtain ⟨p, cap, e, h1, h2, h3⟩ := h.tform
  have c0 := h.blk.cell 0 _ rfl
  rw [e] at c0
  have z0 := h.blk.fz 0
  have hlt := h.blk.lt
  have hf' : ¬ ((64 : Int) ≤ (t.ts.length : Int)) := by omega
  have hrow := h.trow
  rw [e] at hrow
  have HROW := Lib.hid hrow
  have HE := Lib.hid e
  have hml : (2000000 : Nat) ≤ maxLen := by decide
  obtain ⟨i0, hi, hz0, hz1, hz2⟩ := info_parts info101
  have HI := Lib.hid hi; have HZ0 := Lib.hid hz0; have HZ1 := Lib.hid hz1; have HZ2 := Lib.hid hz2
  have HAD : Hid (∀ (o : Obj) (w5 : World) (v : Value) (hG : ((w.alloc (.cells #[.int .i64 ((t.ts.length : Int) + 1), .bool false, .int .i64 0, .string ⟨#[]⟩, scP L s, .slice none 0 0, .bool false, .int .i64 0, .string ⟨#[]⟩] 110)).alloc o).grownBy w5 (Value.slice p t.ts.length cap).ownBlock)
    (hrow : w5.ownsRow 0 101 1 v (t.ts.length + 1) ((List.range t.ts.length).map (tkP L) ++ [ptr w.heap.size])) (hat : v.ownBlock = (Value.slice p t.ts.length cap).ownBlock ∨ v.ownBlock = some (w.heap.size + 1 + 1)),
    Rep (w5.setCell ⟨tb, 0, none⟩ v) (put (put own (some w.heap.size) (.tk t.ts.length)) v.ownBlock .tl) tb (L.addT t.ts.length w.heap.size v) (Tr.addT t s) ∧
    Step w own (w5.setCell ⟨tb, 0, none⟩ v) (put (put own (some w.heap.size) (.tk t.ts.length)) v.ownBlock .tl)) := Lib.hid fun o w5 v hG hrow hat => add_rep h s hs (by rw [e]; exact hG) hrow (by rw [e]; exact hat)
  have htb := h.tb_lt
  have htr : some tb ≠ (Value.slice p t.ts.length cap).ownBlock := fun e' => by rw [← e] at e'; have := h.tlo _ e'.symm; rw [h.hT] at this; simp at this
  have HTR := Lib.hid htr
  have hnr : some w.heap.size ≠ (Value.slice p t.ts.length cap).ownBlock := fun e' => by rw [← e] at e'; have := h.lt _ _ (h.tlo _ e'.symm); omega
  have HNR := Lib.hid hnr
  have HKS := Lib.hid hks
  have HH := Lib.hid h
  have HSS := Lib.hid hs
  obtain ⟨l, hl⟩ : ∃ l, l = t.ts.length := ⟨_, rfl⟩
  have HL := Lib.hid hl
  rw [← hl] at c0 hf hf' HROW HE HAD HTR HNR ⊢
  have e1 : IntKind.i64.wrap ((l : Int) + 1) = (l : Int) + 1 := IntWalk.i64_in _ (by omega)
  have t1 : l + 1 ≤ maxLen := by omega
  have hq : ∃ q, scP L s = .pointer q := by cases s <;> exact ⟨_, rfl⟩
  obtain ⟨q, hq⟩ := hq
  have HQ := Lib.hid hq
  rw [hq]
  rw [hq] at HAD
  clear h hrow e h3 hi hz0 hz1 hz2 hl h1 h2 htr hnr hks hs hq
  go_enter Try.func39, Try.ntmps39
  go_wp2_with (at_builtin; refine wpList_append_own_at _ (by rfl) (.tmp 27) (.tmp 29) 85 (by rfl) 0 101 i0 (.pointer none) 1 8 Try.underlying85 HI.out HZ0.out HZ1.out HZ2.out (by rfl) (by decide) (.slice p l cap) l _ (by rfl) ((HROW.out.alloc _).alloc _) ⟨w.heap.size + 1, 0, none⟩ 1 1 [.pointer (some ⟨w.heap.size, 0, none⟩)] (by rfl) (by rfl) (cell_one_new2 _ _ _ _) (by simp [Value.oneCell']) t1 (by omega) (by simp) ?_)
  intro v5 w5 hown5 hG5 _ hat5
  have HA := Lib.hid (HAD.out _ _ _ hG5 hown5 hat5)
  obtain ⟨p5, cp5, e5, h51, h52, -⟩ := owns_form hown5
  subst e5
  have hz5 : w5.frozen? ⟨tb, 0, none⟩ = false := (World.frozen?_of_block (a := ⟨tb, 0, none⟩) (hG5.block tb (by simp; omega) HTR.out)).trans (((HH.out.blk.alloc _).alloc _).fz 0)
  have hc5 : w5.cell? ⟨tb, 0, none⟩ = some (.slice p l cap) := (World.cell?_of_block (a := ⟨tb, 0, none⟩) (hG5.block tb (by simp; omega) HTR.out)).trans (by have := ((HH.out.blk.alloc (.cells #[.int .i64 ((l : Int) + 1), .bool false, .int .i64 0, .string ⟨#[]⟩, .pointer q, .slice none 0 0, .bool false, .int .i64 0, .string ⟨#[]⟩] 110)).alloc (.cells #[.pointer (some ⟨w.heap.size, 0, none⟩)] 101)).cell 0 _ rfl; rw [HE.out] at this; exact this)
  have hl5 : tb < w5.heap.size := by have := hG5.size; simp at this; omega
  have hw5 : w.heap.size < w5.heap.size := by have := hG5.size; simp at this; omega
  have htw : w.heap.size ≠ tb := by omega
  have hcw : w5.cell? ⟨w.heap.size, 0, none⟩ = some (.int .i64 ((l : Int) + 1)) := (World.cell?_of_block (a := ⟨w.heap.size, 0, none⟩) (hG5.block w.heap.size (by simp; omega) HNR.out)).trans (by
    exact ((Blk.new w #[.int .i64 ((l : Int) + 1), .bool false, .int .i64 0, .string ⟨#[]⟩, .pointer q, .slice none 0 0, .bool false, .int .i64 0, .string ⟨#[]⟩] 110).alloc (.cells #[.pointer (some ⟨w.heap.size, 0, none⟩)] 101)).cell 0 _ rfl)
  clear hown5 hG5 hat5 HAD t1 c0 z0
  cases s with
  | none =>
    obtain rfl : q = none := by have := HQ.out; simpa [scP] using this.symm
    go_wp2
    go_ret2
    exact ⟨rfl, HA.out.2.gone HA.out.1⟩
  | some j =>
    obtain rfl : q = some ⟨L.sc j, 0, none⟩ := by have := HQ.out; simpa [scP] using this.symm
    have hj := HSS.out j rfl
    obtain ⟨y, hy⟩ : ∃ y, t.ss[j]? = some y := ⟨_, List.getElem?_eq_getElem hj⟩
    have R6 := HA.out.1
    have hy6 : (Tr.addT t (some j)).ss[j]? = some y := hy
    have K6 := R6.sc j y hy6
    obtain ⟨p6, cap6, e6, h61, h62, -⟩ := K6.form
    have c66 := K6.blk.cell 6 _ rfl
    rw [e6] at c66
    have c60 := (R6.tk l (Tr.tk0 (some j)) (by simp [Tr.addT, HL.out])).blk.cell 0 _ rfl
    have c60 : (w5.setCell ⟨tb, 0, none⟩ (.slice p5 (l + 1) cp5)).cell? ⟨w.heap.size, 0, none⟩ = some (.int .i64 ((l : Int) + 1)) := by
      have h0 := (R6.tk l (Tr.tk0 (some j)) (by simp [Tr.addT, HL.out])).blk.cell 0 _ rfl
      simpa [Lay.addT, tkC] using h0
    have hnk : some w.heap.size ≠ (Value.slice p6 y.tks.length cap6).ownBlock := fun e' => by
      rw [← e6] at e'
      have h1 := K6.lown _ e'.symm
      have h2 := (R6.tk l (Tr.tk0 (some j)) (by simp [Tr.addT, HL.out])).mine
      have e7 : (L.addT l w.heap.size (.slice p5 (l + 1) cp5)).tk l = w.heap.size := by simp [Lay.addT]
      rw [e7, h1] at h2
      simp at h2
    have hns : some (L.sc j) ≠ (Value.slice p6 y.tks.length cap6).ownBlock := fun e' => by
      rw [← e6] at e'
      have h1 := K6.lown _ e'.symm
      have h2 := K6.mine
      have e7 : (L.addT l w.heap.size (.slice p5 (l + 1) cp5)).sc j = L.sc j := rfl
      rw [e7, h1] at h2
      simp at h2
    have z6 := K6.blk.fz 6
    have l6 := K6.blk.lt
    have lw6 := (R6.tk l (Tr.tk0 (some j)) (by simp [Tr.addT, HL.out])).blk.lt
    have nes : w.heap.size ≠ L.sc j := by have := (HH.out.sc j y hy).blk.lt; omega
    have hk6 := HKS.out j y hy
    have HROW6 := Lib.hid K6.row
    rw [e6] at HROW6
    have HHK : Hid (∀ (o : Obj) (w5' : World) (v : Value), ((w5.setCell ⟨tb, 0, none⟩ (.slice p5 (l + 1) cp5)).alloc o).grownBy w5' (Value.slice p6 y.tks.length cap6).ownBlock →
        w5'.ownsRow 0 101 1 v (y.tks.length + 1) (y.tks.map (tkP (L.addT l w.heap.size (.slice p5 (l + 1) cp5))) ++ [ptr w.heap.size]) →
        (v.ownBlock = (Value.slice p6 y.tks.length cap6).ownBlock ∨ v.ownBlock = some ((w5.setCell ⟨tb, 0, none⟩ (.slice p5 (l + 1) cp5)).heap.size + 1)) → Gone w own tb (Tr.hook (Tr.addT t (some j)) (some j) l) (w5'.setCell ⟨L.sc j, 6, none⟩ v)) := Lib.hid fun o w5' v hG hrow hat => by
      have e7 : tkP (L.addT l w.heap.size (.slice p5 (l + 1) cp5)) l = ptr w.heap.size := by simp [tkP, Lay.addT]
      have := hook_rep R6 hy6 (i := l) (by simp [Tr.addT, HL.out]) (o := o) (w5 := w5') (v := v) (by rw [e6]; exact hG) (by rw [e7]; exact hrow) (by rw [e6]; exact hat)
      have e8 : Tr.hook (Tr.addT t (some j)) (some j) l = Tr.setS (Tr.addT t (some j)) j { y with tks := y.tks ++ [l] } := by
        unfold Tr.hook; simp only [hy6]
      rw [e8]
      exact (HA.out.2.trans this.2).gone this.1
    obtain ⟨l2, hl2⟩ : ∃ l2, l2 = y.tks.length := ⟨_, rfl⟩
    rw [← hl2] at c66 hnk hns h61 hk6 HROW6 HHK
    have t2 : l2 + 1 ≤ maxLen := by omega
    have c66' : (w5.setCell ⟨tb, 0, none⟩ (.slice p5 (l + 1) cp5)).cell? ⟨L.sc j, 6, none⟩ = some (.slice p6 l2 cap6) := c66
    have z6' : (w5.setCell ⟨tb, 0, none⟩ (.slice p5 (l + 1) cp5)).frozen? ⟨L.sc j, 6, none⟩ = false := z6
    have l6' : L.sc j < (w5.setCell ⟨tb, 0, none⟩ (.slice p5 (l + 1) cp5)).heap.size := l6
    have lw6' : w.heap.size < (w5.setCell ⟨tb, 0, none⟩ (.slice p5 (l + 1) cp5)).heap.size := by simpa [World.setCell] using hw5
    have HNK := Lib.hid hnk; have HNS := Lib.hid hns
    have HB6 := Lib.hid K6.blk
    have HB0 := Lib.hid (R6.tk l (Tr.tk0 (some j)) (by simp [Tr.addT, HL.out])).blk
    clear R6 K6 hy hy6 e6 hnk hns hl2 c66 z6 l6 lw6 HA
    have hss : (w5.setCell ⟨tb, 0, none⟩ (.slice p5 (l + 1) cp5)).heap.size = w5.heap.size := by simp [World.setCell]
    have HCN : Hid (∀ j u, [Value.pointer (some ⟨w.heap.size, 0, none⟩)][j]? = some u → ((w5.setCell ⟨tb, 0, none⟩ (.slice p5 (l + 1) cp5)).alloc (.cells #[.pointer (some ⟨w.heap.size, 0, none⟩)] 101)).cell? ((⟨w5.heap.size, 0, none⟩ : Addr).add j) = some u) := Lib.hid (by
      have := cell_one_new (w5.setCell ⟨tb, 0, none⟩ (.slice p5 (l + 1) cp5)) (.pointer (some ⟨w.heap.size, 0, none⟩)) 101
      rwa [hss] at this)
    have HSSZ := Lib.hid hss
    clear hss
    go_wp2_with (at_builtin; refine wpList_append_own_at _ (by rfl) (.tmp 39) (.tmp 41) 85 (by rfl) 0 101 i0 (.pointer none) 1 8 Try.underlying85 HI.out HZ0.out HZ1.out HZ2.out (by rfl) (by decide) (.slice p6 l2 cap6) l2 _ (by rfl) (HROW6.out.alloc _) ⟨w5.heap.size, 0, none⟩ 1 1 [.pointer (some ⟨w.heap.size, 0, none⟩)] (by rfl) (by rfl) HCN.out (by simp [Value.oneCell']) t2 (by omega) (by simp) ?_)
    intro v8 w8 hown8 hG8 _ hat8
    have HG := Lib.hid (HHK.out _ _ _ hG8 hown8 (by rw [HSSZ.out]; simpa [World.setCell] using hat8))
    obtain ⟨p8, cp8, e8, h81, h82, -⟩ := owns_form hown8
    subst e8
    have c8 : w8.cell? ⟨L.sc j, 6, none⟩ = some (.slice p6 l2 cap6) := (World.cell?_of_block (a := ⟨L.sc j, 6, none⟩) (hG8.block (L.sc j) (by simp [World.setCell] at l6' ⊢; omega) HNS.out)).trans ((World.cell?_alloc_past _ _ _ l6').trans c66')
    have z8 : w8.frozen? ⟨L.sc j, 6, none⟩ = false := (World.frozen?_of_block (a := ⟨L.sc j, 6, none⟩) (hG8.block (L.sc j) (by simp [World.setCell] at l6' ⊢; omega) HNS.out)).trans ((HB6.out.alloc _).fz 6)
    have d8 : w8.cell? ⟨w.heap.size, 0, none⟩ = some (.int .i64 ((l : Int) + 1)) := (World.cell?_of_block (a := ⟨w.heap.size, 0, none⟩) (hG8.block w.heap.size (by simp [World.setCell]; omega) HNK.out)).trans ((World.cell?_alloc_past _ _ _ lw6').trans c60)
    have s8 := hG8.size
    have l8 : L.sc j < w8.heap.size := by simp [World.setCell] at s8 l6'; omega
    have lw8 : w.heap.size < w8.heap.size := by simp [World.setCell] at s8; omega
    clear hown8 hG8 hat8 t2 c60 c66' z6' s8 HCN
    go_wp2
    go_ret2
    exact ⟨rfl, HG.out⟩
end
end Go.Proofs.Ytcegmdlmnibheaa
