/- What newOwner does. -/
import Derived.Test.YtajccigefoddiaaOwn
namespace Go.Proofs.Ytajccigefoddiaa
set_option linter.unusedVariables false
set_option linter.unusedSimpArgs false
open Go.RowKit Go.Shelf
def opOf (x : Int) : St.Op := if x = 0 then .take else .push x
def opsV (l : List St.Op) : List Value := l.map opV
theorem run_store_ifc (P : Program) (w : World) (a : Addr) (m : Mode) (t : TypeId) (v : Value) : (store a (.iface t v) m).run P w = stored P w a (.iface t v) m := run_store P w a _ m rfl
attribute [local go_sem] run_store_func run_store_nilf run_store_ifc
/-- A fresh actor: what it has to do lies in new memory. -/
def newAc (w : World) (l : List St.Op) (e : Ending) (w' : World) : Prop :=
  ∃ tv, e = .returned (.agg #[tv, .nilFunc, .slice none 0 0]) ∧ w'.ownsRow w.heap.size 122 1 tv l.length (opsV l) ∧ Below w.heap.size w w'
theorem newAc.todo {w w' : World} {l : List St.Op} {tv : Value} (h : w'.ownsRow w.heap.size 122 1 tv l.length (opsV l)) {A : Nat → Prop} (hA : ∀ k, w.heap.size ≤ k → A k) : TodoAt w' A tv l := by
  obtain ⟨p, cap, e, h1, h2, h3⟩ := owns_form h
  refine ⟨p, cap, e, h1, h2, fun i x hx => ?_⟩
  have hi := (List.getElem?_eq_some_iff.1 hx).1
  obtain ⟨g, e2, hg, hc⟩ := h3 (by omega)
  subst e2
  subst e
  exact ⟨g, 0, rfl, hA g (h.lt g rfl).1, hg, by rw [Nat.zero_add]; exact hc i _ (by unfold opsV; rw [List.getElem?_map, hx]; rfl)⟩
set_option maxRecDepth 100000 in
set_option maxHeartbeats 2000000 in
theorem newOwner_any (w : World) (p : Option Addr) (cap : Nat) (l : List Int) (hl : l.length ≤ 1000) (hp : NumsAt w p l) : Calls Try.prog 64 #[.slice p l.length cap] w (newAc w (l.map opOf)) := by
  obtain ⟨n, hnn⟩ : ∃ n, n = l.length := ⟨_, rfl⟩
  have HN := Lib.hid hnn
  have HP := Lib.hid hp
  rw [← hnn] at hl ⊢
  obtain ⟨i0, hi, hz0, hz1, hz2⟩ := info_parts info122
  have HI := Lib.hid hi; have HZ0 := Lib.hid hz0; have HZ1 := Lib.hid hz1; have HZ2 := Lib.hid hz2
  have hml : (2000000 : Nat) ≤ maxLen := by decide
  have HB0 : Hid (Blk ((w.alloc (.cells #[.slice none 0 0, .nilFunc, .slice none 0 0] 91)).alloc (.cells #[.slice none 0 0, .nilFunc, .slice none 0 0] 91)) (w.heap.size + 1) [.slice none 0 0, .nilFunc, .slice none 0 0] ∧ Blk ((w.alloc (.cells #[.slice none 0 0, .nilFunc, .slice none 0 0] 91)).alloc (.cells #[.slice none 0 0, .nilFunc, .slice none 0 0] 91)) w.heap.size [.slice none 0 0, .nilFunc, .slice none 0 0]) := Lib.hid (by
    have h1 := Blk.new (w.alloc (.cells #[.slice none 0 0, .nilFunc, .slice none 0 0] 91)) #[.slice none 0 0, .nilFunc, .slice none 0 0] 91
    rw [World.size_alloc] at h1
    exact ⟨h1, (Blk.new w _ _).alloc _⟩)
  have HBW : Hid (Below w.heap.size w ((w.alloc (.cells #[.slice none 0 0, .nilFunc, .slice none 0 0] 91)).alloc (.cells #[.slice none 0 0, .nilFunc, .slice none 0 0] 91))) := Lib.hid (bAl (bAl (Below.refl _ _) _) _)
  unfold newAc
  clear hnn hp hi hz0 hz1 hz2
  go_enter Try.func64, Try.ntmps64
  go_wp2_with fail
  go_loopw [8] (fun i wr => ∃ (k : Nat) (pv : Option Addr) (cv : Nat), k ≤ n ∧ i = .int .i64 (k : Int) ∧ k ≤ cv ∧ cv ≤ maxLen ∧ Hid (Blk wr (w.heap.size + 1) [.slice pv k cv, .nilFunc, .slice none 0 0] ∧ Blk wr w.heap.size [.slice none 0 0, .nilFunc, .slice none 0 0]) ∧ Hid (wr.ownsRow (w.heap.size + 2) 122 1 (.slice pv k cv) k (opsV ((l.map opOf).take k))) ∧ Hid (Below w.heap.size w wr)) (fun i _ => n - (intOf i).toNat)
  case atStart => exact ⟨0, none, 0, Nat.zero_le _, rfl, Nat.zero_le _, Nat.zero_le _, HB0, Lib.hid (World.ownsRow_nil _ _ _ _), HBW⟩
  case round =>
    obtain ⟨k, pv, cv, hk, rfl, hv1, hv2, HB, HROW, HBl⟩ := hrel
    clear HB0 HBW
    have b0 := HB.out.1.cell 0 _ rfl
    have z0 := HB.out.1.fz 0
    have hlb := HB.out.1.lt
    by_cases hlt : k < n
    · obtain ⟨a, ha⟩ : ∃ a, l[k]? = some a := ⟨_, List.getElem?_eq_getElem (by have := HN.out; omega)⟩
      obtain ⟨g, off, rfl, hg, hcc⟩ := HP.out (by have := HN.out; omega)
      have c0 := hcc k (by have := HN.out; omega)
      rw [List.getD_eq_getElem?_getD, ha] at c0
      simp only [Option.getD_some] at c0
      have c1 := cell_of HBl.out c0
      have hgr := Nat.lt_of_lt_of_le hg HBl.out.size
      have j1 : (k : Int) < (n : Int) := by omega
      have HT : Hid (opsV ((l.map opOf).take (k + 1)) = opsV ((l.map opOf).take k) ++ [opV (opOf a)]) := Lib.hid (by
        rw [List.take_add_one, List.getElem?_map, ha]; simp [opsV])
      have hnr : some (w.heap.size + 1) ≠ (Value.slice pv k cv).ownBlock := fun e => by have := (HROW.out.lt _ e.symm).1; omega
      have HNR := Lib.hid hnr
      have hnr2 : some w.heap.size ≠ (Value.slice pv k cv).ownBlock := fun e => by have := (HROW.out.lt _ e.symm).1; omega
      have HNR2 := Lib.hid hnr2
      have t1 : k + 1 ≤ maxLen := by omega
      have HFIN : Hid (∀ (o : Obj) (w5 : World) (g5 cp5 : Nat), (wr.alloc o).grownBy w5 (Value.slice pv k cv).ownBlock → w5.ownsRow (w.heap.size + 2) 122 1 (.slice (some ⟨g5, 0, none⟩) (k + 1) cp5) (k + 1) (opsV ((l.map opOf).take k) ++ [opV (opOf a)]) →
          (k + 1 ≤ cp5 ∧ cp5 ≤ maxLen) ∧ w5.cell? ⟨w.heap.size + 1, 0, none⟩ = some (.slice pv k cv) ∧ w5.frozen? ⟨w.heap.size + 1, 0, none⟩ = false ∧ w.heap.size + 1 < w5.heap.size ∧
          Hid (Blk (w5.setCell ⟨w.heap.size + 1, 0, none⟩ (.slice (some ⟨g5, 0, none⟩) (k + 1) cp5)) (w.heap.size + 1) [.slice (some ⟨g5, 0, none⟩) (k + 1) cp5, .nilFunc, .slice none 0 0] ∧ Blk (w5.setCell ⟨w.heap.size + 1, 0, none⟩ (.slice (some ⟨g5, 0, none⟩) (k + 1) cp5)) w.heap.size [.slice none 0 0, .nilFunc, .slice none 0 0]) ∧
          Hid ((w5.setCell ⟨w.heap.size + 1, 0, none⟩ (.slice (some ⟨g5, 0, none⟩) (k + 1) cp5)).ownsRow (w.heap.size + 2) 122 1 (.slice (some ⟨g5, 0, none⟩) (k + 1) cp5) (k + 1) (opsV ((l.map opOf).take (k + 1)))) ∧
          Hid (Below w.heap.size w (w5.setCell ⟨w.heap.size + 1, 0, none⟩ (.slice (some ⟨g5, 0, none⟩) (k + 1) cp5)))) := Lib.hid fun o w5 g5 cp5 hG hrow => by
        have hB5 := (HB.out.1.alloc o).grown hG HNR.out
        have hB5' := (HB.out.2.alloc o).grown hG HNR2.out
        have hcp : k + 1 ≤ cp5 ∧ cp5 ≤ maxLen := by
          rcases hrow.2 with ⟨e, _⟩ | ⟨g', cap', cur, e, h1, h2, h3, h4, h5⟩
          · cases e
          · cases e; exact ⟨h3, h4⟩
        have hgl := (hrow.lt g5 rfl).1
        refine ⟨hcp, hB5.cell 0 _ rfl, hB5.fz 0, hB5.lt, Lib.hid ⟨hB5.set (o := 0) (by simp) _, hB5'.set_other (by omega) _⟩, Lib.hid ?_, Lib.hid ?_⟩
        · rw [HT.out]
          exact owns_fr hrow (frA w5 (w.heap.size + 1) 0 _) (fun x e hx => (by have e' : g5 = x := (by simpa [Value.ownBlock] using e); omega))
        · exact bSt ((bAl HBl.out o).grown hG (by have := HBl.out.size; simp; omega) (fun b e => by have := (HROW.out.lt b e).1; omega)) (by omega) _ _
      clear hcc ha c0 hg hnr hnr2
      by_cases ha0 : a = 0
      · subst ha0
        have e3 : opV (opOf 0) = .iface 140 (.agg #[]) := rfl
        rw [e3] at HFIN
        go_wp2_with (at_builtin; refine wpList_append_own_at _ (by rfl) (.tmp 15) (.tmp 18) 87 (by rfl) (w.heap.size + 2) 122 i0 .nilIface 1 16 Try.underlying87 HI.out HZ0.out HZ1.out HZ2.out (by rfl) (by decide) (.slice pv k cv) k _ (by rfl) (HROW.out.alloc _) ⟨wr.heap.size, 0, none⟩ 1 1 [.iface 140 (.agg #[])] (by rfl) (by rfl) (cell_one_new _ _ _) (by simp [Value.oneCell']) t1 (by omega) (by have := HBl.out.size; simp; omega) ?_)
        intro v5 w5 hown5 hG5 _ hat5
        obtain ⟨g5, cp5, rfl⟩ := ownsRow_succ hown5
        obtain ⟨q1, q2, q3, q4, Q5, Q6, Q7⟩ := HFIN.out _ _ _ _ hG5 hown5
        clear hown5 hG5 hat5 HFIN
        go_wp2
        go_roundw
        case rel => exact ⟨k + 1, some ⟨g5, 0, none⟩, cp5, by omega, by go_num, q1.1, q1.2, Q5, Q6, Q7⟩
        case measure => simp [intOf]; omega
      · have e3 : opV (opOf a) = .iface 141 (.int .i64 a) := by unfold opOf; rw [if_neg ha0]; rfl
        rw [e3] at HFIN
        have j2 : (a == 0) = false := by simpa using ha0
        clear ha0
        go_wp2_with (at_builtin; refine wpList_append_own_at _ (by rfl) (.tmp 22) (.tmp 25) 87 (by rfl) (w.heap.size + 2) 122 i0 .nilIface 1 16 Try.underlying87 HI.out HZ0.out HZ1.out HZ2.out (by rfl) (by decide) (.slice pv k cv) k _ (by rfl) (HROW.out.alloc _) ⟨wr.heap.size, 0, none⟩ 1 1 [.iface 141 (.int .i64 a)] (by rfl) (by rfl) (cell_one_new _ _ _) (by simp [Value.oneCell']) t1 (by omega) (by have := HBl.out.size; simp; omega) ?_)
        intro v5 w5 hown5 hG5 _ hat5
        obtain ⟨g5, cp5, rfl⟩ := ownsRow_succ hown5
        obtain ⟨q1, q2, q3, q4, Q5, Q6, Q7⟩ := HFIN.out _ _ _ _ hG5 hown5
        clear hown5 hG5 hat5 HFIN
        go_wp2
        go_roundw
        case rel => exact ⟨k + 1, some ⟨g5, 0, none⟩, cp5, by omega, by go_num, q1.1, q1.2, Q5, Q6, Q7⟩
        case measure => simp [intOf]; omega
    · obtain rfl : k = n := by omega
      have b1 := HB.out.1.cell 1 _ rfl
      have b2 := HB.out.1.cell 2 _ rfl
      have y0 := HB.out.2.cell 0 _ rfl
      have y1 := HB.out.2.cell 1 _ rfl
      have y2 := HB.out.2.cell 2 _ rfl
      have x0 := HB.out.2.fz 0
      have x1 := HB.out.2.fz 1
      have x2 := HB.out.2.fz 2
      have hlw := HB.out.2.lt
      have hB3 := ((HB.out.2.set (o := 0) (by simp) (.slice pv k cv)).set (o := 1) (by simp) .nilFunc).set (o := 2) (by simp) (.slice none 0 0)
      have r0 := hB3.cell 0 _ rfl
      have r1 := hB3.cell 1 _ rfl
      have r2 := hB3.cell 2 _ rfl
      have HTK : Hid ((l.map opOf).take k = l.map opOf) := Lib.hid (List.take_of_length_le (by simp; have := HN.out; omega))
      rw [HTK.out] at HROW
      have HL : Hid ((l.map opOf).length = k) := Lib.hid (by simp; have := HN.out; omega)
      have HR3 : Hid ((((wr.setCell ⟨w.heap.size, 0, none⟩ (.slice pv k cv)).setCell ⟨w.heap.size, 1, none⟩ .nilFunc).setCell ⟨w.heap.size, 2, none⟩ (.slice none 0 0)).ownsRow w.heap.size 122 1 (.slice pv k cv) k (opsV (l.map opOf))) := Lib.hid (by
        have hF : Fr (fun x => x = w.heap.size) wr (((wr.setCell ⟨w.heap.size, 0, none⟩ (.slice pv k cv)).setCell ⟨w.heap.size, 1, none⟩ .nilFunc).setCell ⟨w.heap.size, 2, none⟩ (.slice none 0 0)) := ((frA wr _ _ _).trans (frA _ _ _ _)).trans (frA _ _ _ _)
        have h5 := owns_fr HROW.out hF (fun x e hx => by have := (HROW.out.lt x e).1; omega)
        exact ⟨h5.1, h5.2.imp id fun ⟨g, c, cur, a, i, d⟩ => ⟨g, c, cur, a, by omega, d⟩⟩)
      have HB4 : Hid (Below w.heap.size w (((wr.setCell ⟨w.heap.size, 0, none⟩ (.slice pv k cv)).setCell ⟨w.heap.size, 1, none⟩ .nilFunc).setCell ⟨w.heap.size, 2, none⟩ (.slice none 0 0))) := Lib.hid (bSt (bSt (bSt HBl.out (Nat.le_refl _) _ _) (Nat.le_refl _) _ _) (Nat.le_refl _) _ _)
      go_wp2
      refine bodyPost_ret (v := .agg #[.slice pv k cv, .nilFunc, .slice none 0 0]) (by simp [results, Try.f64, go_sem, r0, r1, r2]) rfl ?_
      refine ⟨_, rfl, ?_, HB4.out⟩
      rw [HL.out]
      exact HR3.out
end Go.Proofs.Ytajccigefoddiaa
