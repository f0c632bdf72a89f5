/- What Open does. -/
import Derived.Test.YtcegmdlmnibheaaLim
namespace Go.Proofs.Ytcegmdlmnibheaa
set_option linter.unusedVariables false
set_option linter.unusedSimpArgs false
open Go.RowKit
section
variable {w : World} {own : Own} {tb : Nat} {L : Lay} {t : Tr.T}
set_option maxRecDepth 100000 in
set_option maxHeartbeats 8000000 in
theorem open_any (h : Rep w own tb L t) (hl : Lim t) (n : Int) (sup : Bool) : Calls Try.prog 16 #[ptr tb, .int .i64 n, .bool sup] w (goneII w own tb (Tr.open_ t n sup)) := by
  unfold goneII Tr.open_
  by_cases hac : Tr.ac t n ≠ 0
  · rw [if_pos hac]
    have A := Lib.hid (acting_no h hac)
    have HG := Lib.hid h.gone
    unfold same at A
    have hne : (Tr.ac t n != 0) = true := by simpa using hac
    generalize Tr.ac t n = c at *
    clear h hl hac
    go_enter Try.func16, Try.ntmps16
    go_wp2_with fail
    refine A.out.mono ?_
    rintro e w2 ⟨rfl, rfl⟩
    go_wp2
    go_ret2
    exact ⟨rfl, HG.out⟩
  · rw [if_neg hac]
    obtain ⟨i, x, rfl, hx, hd, hv, htk⟩ := ac_zero hac
    simp only [htk, to_i]
    have A := Lib.hid (acting_ok h hx hd hv)
    unfold same tkP at A
    obtain ⟨p, cap, e, h1, h2, -⟩ := h.sform
    have c1 := h.blk.cell 1 _ rfl
    rw [e] at c1
    by_cases h200 : 200 ≤ t.ss.length
    · rw [if_pos h200]
      have h200' : (200 : Int) ≤ (t.ss.length : Int) := by omega
      have HG := Lib.hid h.gone
      generalize t.ss.length = l at *
      clear h hl hac hx hd hv htk e
      go_enter Try.func16, Try.ntmps16
      go_wp2_with fail
      refine A.out.mono ?_
      rintro e w2 ⟨rfl, rfl⟩
      go_wp2
      go_ret2
      exact ⟨rfl, HG.out⟩
    · rw [if_neg h200]
      have h200' : ¬ ((200 : Int) ≤ (t.ss.length : Int)) := by omega
      have z1 := h.blk.fz 1
      have hlt := h.blk.lt
      have hrow := h.srow
      rw [e] at hrow
      have HROW := Lib.hid hrow
      have HE := Lib.hid e
      have hml : (2000000 : Nat) ≤ maxLen := by decide
      obtain ⟨i0, hi, hz0, hz1, hz2⟩ := info_parts info104
      have HI := Lib.hid hi; have HZ0 := Lib.hid hz0; have HZ1 := Lib.hid hz1; have HZ2 := Lib.hid hz2
      have hit : i < t.ts.length := (List.getElem?_eq_some_iff.1 hx).1
      have HAD : Hid (∀ (o : Obj) (w5 : World) (v : Value) (_ : ((w.alloc (.cells #[.int .i64 ((t.ss.length : Int) + 1), .bool false, .int .i64 0, .string ⟨#[]⟩, tkP L i, .bool sup, .slice none 0 0] 108)).alloc o).grownBy w5 (Value.slice p t.ss.length cap).ownBlock)
        (_ : w5.ownsRow 0 104 1 v (t.ss.length + 1) ((List.range t.ss.length).map (fun j => scP L (some j)) ++ [ptr w.heap.size])) (_ : v.ownBlock = (Value.slice p t.ss.length cap).ownBlock ∨ v.ownBlock = some (w.heap.size + 1 + 1)),
        Rep (w5.setCell ⟨tb, 1, none⟩ v) (put (put own (some w.heap.size) (.sc t.ss.length)) v.ownBlock .sl) tb (L.addS t.ss.length w.heap.size v) { t with ss := t.ss ++ [Tr.sc0 i sup] } ∧
        Step w own (w5.setCell ⟨tb, 1, none⟩ v) (put (put own (some w.heap.size) (.sc t.ss.length)) v.ownBlock .sl)) := Lib.hid fun o w5 v hG hrow hat => scope_rep h hit sup (by rw [e]; exact hG) hrow (by rw [e]; exact hat)
      have htr : some tb ≠ (Value.slice p t.ss.length cap).ownBlock := fun e' => by rw [← e] at e'; have := h.slo _ e'.symm; rw [h.hT] at this; simp at this
      have HTR := Lib.hid htr
      have hnr : some w.heap.size ≠ (Value.slice p t.ss.length cap).ownBlock := fun e' => by rw [← e] at e'; have := h.lt _ _ (h.slo _ e'.symm); omega
      have HNR := Lib.hid hnr
      have HH := Lib.hid h
      have HX := Lib.hid hx
      have HOP := Lib.hid (hl.op hx)
      obtain ⟨l, hll⟩ : ∃ l, l = t.ss.length := ⟨_, rfl⟩
      have HL := Lib.hid hll
      rw [← hll] at c1 h200 h200' HROW HE HAD HTR HNR ⊢
      have e1 : IntKind.i64.wrap ((l : Int) + 1) = (l : Int) + 1 := IntWalk.i64_in _ (by omega)
      have t1 : l + 1 ≤ maxLen := by omega
      have htb := h.tb_lt
      unfold tkP at HAD
      clear h hrow e hi hz0 hz1 hz2 hll h1 h2 htr hnr hx hl hac hd hv htk
      go_enter Try.func16, Try.ntmps16
      go_wp2_with fail
      refine A.out.mono ?_
      rintro e w2 ⟨rfl, rfl⟩
      go_wp2_with (at_builtin; refine wpList_append_own_at _ (by rfl) (.tmp 43) (.tmp 45) 86 (by rfl) 0 104 i0 (.pointer none) 1 8 Try.underlying86 HI.out HZ0.out HZ1.out HZ2.out (by rfl) (by decide) (.slice p l cap) l _ (by rfl) ((HROW.out.alloc _).alloc _) ⟨w.heap.size + 1, 0, none⟩ 1 1 [.pointer (some ⟨w.heap.size, 0, none⟩)] (by rfl) (by rfl) (cell_one_new2 _ _ _ _) (by simp [Value.oneCell']) t1 (by omega) (by simp) ?_)
      intro v5 w5 hown5 hG5 _ hat5
      have HA := Lib.hid (HAD.out _ _ _ hG5 hown5 hat5)
      obtain ⟨p5, cp5, e5, h51, h52, -⟩ := owns_form hown5
      subst e5
      have hz5 : w5.frozen? ⟨tb, 1, none⟩ = false := (World.frozen?_of_block (a := ⟨tb, 1, none⟩) (hG5.block tb (by simp; omega) HTR.out)).trans (((HH.out.blk.alloc _).alloc _).fz 1)
      have hc5 : w5.cell? ⟨tb, 1, none⟩ = some (.slice p l cap) := (World.cell?_of_block (a := ⟨tb, 1, none⟩) (hG5.block tb (by simp; omega) HTR.out)).trans ((World.cell?_alloc_past _ _ _ (by simp; omega)).trans ((World.cell?_alloc_past _ _ _ htb).trans c1))
      have hl5 : tb < w5.heap.size := by have := hG5.size; simp at this; omega
      have hw5 : w.heap.size < w5.heap.size := by have := hG5.size; simp at this; omega
      have htw : w.heap.size ≠ tb := by omega
      clear hown5 hG5 hat5 HAD t1 c1 z1
      -- the second list
      have R6 := HA.out.1
      have K6 := R6.tk i x HX.out
      obtain ⟨p6, cap6, e6, h61, h62, -⟩ := K6.form
      have hsl : ({ t with ss := t.ss ++ [Tr.sc0 i sup] } : Tr.T).ss[l]? = some (Tr.sc0 i sup) := by simp [HL.out]
      have S6 := R6.sc l _ hsl
      have ews : (L.addS l w.heap.size (.slice p5 (l + 1) cp5)).sc l = w.heap.size := by simp [Lay.addS]
      have c65 : (w5.setCell ⟨tb, 1, none⟩ (.slice p5 (l + 1) cp5)).cell? ⟨L.tk i, 5, none⟩ = some (.slice p6 x.op.length cap6) := by
        have := K6.blk.cell 5 _ rfl
        rw [e6] at this; exact this
      have c60 : (w5.setCell ⟨tb, 1, none⟩ (.slice p5 (l + 1) cp5)).cell? ⟨w.heap.size, 0, none⟩ = some (.int .i64 ((l : Int) + 1)) := by
        have h0 := S6.blk.cell 0 _ rfl
        rw [ews] at h0; exact h0
      have hnk : some w.heap.size ≠ (Value.slice p6 x.op.length cap6).ownBlock := fun e' => by
        rw [← e6] at e'
        have h1 := K6.lown _ e'.symm
        have h2 := S6.mine
        rw [ews, h1] at h2
        simp at h2
      have hns : some (L.tk i) ≠ (Value.slice p6 x.op.length cap6).ownBlock := fun e' => by
        rw [← e6] at e'
        have h1 := K6.lown _ e'.symm
        have h2 : _ = _ := K6.mine
        have e7 : (L.addS l w.heap.size (.slice p5 (l + 1) cp5)).tk i = L.tk i := rfl
        rw [e7, h1] at h2
        simp at h2
      have l6' : L.tk i < (w5.setCell ⟨tb, 1, none⟩ (.slice p5 (l + 1) cp5)).heap.size := K6.blk.lt
      have lw6' : w.heap.size < (w5.setCell ⟨tb, 1, none⟩ (.slice p5 (l + 1) cp5)).heap.size := by simpa [World.setCell] using hw5
      have nes : w.heap.size ≠ L.tk i := by have := (HH.out.tk i x HX.out).blk.lt; omega
      have HROW6 := Lib.hid K6.row
      rw [e6] at HROW6
      have HHK : Hid (∀ (o : Obj) (w5' : World) (v : Value), ((w5.setCell ⟨tb, 1, none⟩ (.slice p5 (l + 1) cp5)).alloc o).grownBy w5' (Value.slice p6 x.op.length cap6).ownBlock →
        w5'.ownsRow 0 104 1 v (x.op.length + 1) (x.op.map (scP (L.addS l w.heap.size (.slice p5 (l + 1) cp5))) ++ [ptr w.heap.size]) →
        (v.ownBlock = (Value.slice p6 x.op.length cap6).ownBlock ∨ v.ownBlock = some ((w5.setCell ⟨tb, 1, none⟩ (.slice p5 (l + 1) cp5)).heap.size + 1)) → Gone w own tb (Tr.opened t i x sup) (w5'.setCell ⟨L.tk i, 5, none⟩ v)) := Lib.hid fun o w5' v hG hrow hat => by
        have e7 : scP (L.addS l w.heap.size (.slice p5 (l + 1) cp5)) (some l) = ptr w.heap.size := by simp [scP, Lay.addS]
        have := link_rep R6 (i := i) HX.out (s := some l) (by simp [HL.out]) (o := o) (w5 := w5') (v := v) (by rw [e6]; exact hG) (by rw [e7]; exact hrow) (by rw [e6]; exact hat)
        have e8 : Tr.opened t i x sup = Tr.setT { t with ss := t.ss ++ [Tr.sc0 i sup] } i { x with op := x.op ++ [some l] } := by unfold Tr.opened; rw [HL.out]
        rw [e8]
        exact (HA.out.2.trans this.2).gone this.1
      obtain ⟨l2, hl2⟩ : ∃ l2, l2 = x.op.length := ⟨_, rfl⟩
      rw [← hl2] at c65 hnk hns h61 HOP HROW6 HHK
      have hop := HOP.out
      have t2 : l2 + 1 ≤ maxLen := by omega
      have HNK := Lib.hid hnk; have HNS := Lib.hid hns
      have HB6 := Lib.hid K6.blk
      have z6' : (w5.setCell ⟨tb, 1, none⟩ (.slice p5 (l + 1) cp5)).frozen? ⟨L.tk i, 5, none⟩ = false := K6.blk.fz 5
      have hss : (w5.setCell ⟨tb, 1, none⟩ (.slice p5 (l + 1) cp5)).heap.size = w5.heap.size := by simp [World.setCell]
      have HCN : Hid (∀ j u, [Value.pointer (some ⟨w.heap.size, 0, none⟩)][j]? = some u → ((w5.setCell ⟨tb, 1, none⟩ (.slice p5 (l + 1) cp5)).alloc (.cells #[.pointer (some ⟨w.heap.size, 0, none⟩)] 104)).cell? ((⟨w5.heap.size, 0, none⟩ : Addr).add j) = some u) := Lib.hid (by
        have := cell_one_new (w5.setCell ⟨tb, 1, none⟩ (.slice p5 (l + 1) cp5)) (.pointer (some ⟨w.heap.size, 0, none⟩)) 104
        rwa [hss] at this)
      have HSSZ := Lib.hid hss
      clear R6 K6 S6 e6 hnk hns hl2 HA hss hsl ews
      go_wp2_with (at_builtin; refine wpList_append_own_at _ (by rfl) (.tmp 53) (.tmp 55) 86 (by rfl) 0 104 i0 (.pointer none) 1 8 Try.underlying86 HI.out HZ0.out HZ1.out HZ2.out (by rfl) (by decide) (.slice p6 l2 cap6) l2 _ (by rfl) (HROW6.out.alloc _) ⟨w5.heap.size, 0, none⟩ 1 1 [.pointer (some ⟨w.heap.size, 0, none⟩)] (by rfl) (by rfl) HCN.out (by simp [Value.oneCell']) t2 (by omega) (by simp) ?_)
      intro v8 w8 hown8 hG8 _ hat8
      have HG := Lib.hid (HHK.out _ _ _ hG8 hown8 (by rw [HSSZ.out]; simpa [World.setCell] using hat8))
      obtain ⟨p8, cp8, e8, h81, h82, -⟩ := owns_form hown8
      subst e8
      have c8 : w8.cell? ⟨L.tk i, 5, none⟩ = some (.slice p6 l2 cap6) := (World.cell?_of_block (a := ⟨L.tk i, 5, none⟩) (hG8.block (L.tk i) (by simp [World.setCell] at l6' ⊢; omega) HNS.out)).trans ((World.cell?_alloc_past _ _ _ l6').trans c65)
      have z8 : w8.frozen? ⟨L.tk i, 5, none⟩ = false := (World.frozen?_of_block (a := ⟨L.tk i, 5, none⟩) (hG8.block (L.tk i) (by simp [World.setCell] at l6' ⊢; omega) HNS.out)).trans ((HB6.out.alloc _).fz 5)
      have d8 : w8.cell? ⟨w.heap.size, 0, none⟩ = some (.int .i64 ((l : Int) + 1)) := (World.cell?_of_block (a := ⟨w.heap.size, 0, none⟩) (hG8.block w.heap.size (by simp [World.setCell]; omega) HNK.out)).trans ((World.cell?_alloc_past _ _ _ lw6').trans c60)
      have s8 := hG8.size
      have l8 : L.tk i < w8.heap.size := by simp [World.setCell] at s8 l6'; omega
      have lw8 : w.heap.size < w8.heap.size := by simp [World.setCell] at s8; omega
      clear hown8 hG8 hat8 t2 c60 c65 z6' s8 HCN
      go_wp2
      go_ret2
      exact ⟨rfl, HG.out⟩
end
end Go.Proofs.Ytcegmdlmnibheaa
