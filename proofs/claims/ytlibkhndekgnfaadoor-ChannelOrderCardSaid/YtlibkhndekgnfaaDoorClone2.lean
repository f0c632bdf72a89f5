/- What the list's clone does. -/
import Derived.Test.YtlibkhndekgnfaaDoorClone
namespace Go.Proofs.YtlibkhndekgnfaaDoor
open Go.RowKit Go.Shelf

attribute [local go_sem] Oper.semAt_some

theorem Blk.ext1 {W : World} {b : Nat} {g : Nat → Value} (h : Blk W b 1 g) {v : Value} (hv : g 0 = v) : Blk W b 1 (fun _ => v) := h.ext fun o ho => by
  have : o = 0 := by omega
  subst this; exact hv

def clonePost (w : World) (ws : List Cn.Wt) (e : Ending) (w' : World) : Prop :=
  ∃ ms, e = .returned (.agg #[.pointer (ptrAt ms 0)]) ∧ Chain w' ms ws ∧ ms.Nodup ∧ (∀ x ∈ ms, w.heap.size ≤ x) ∧ Below w.heap.size w w'

def cloneI (w : World) (pre : List Cn.Wt) (W : World) : Prop :=
  (∃ ms, Made W (w.heap.size + 1) (w.heap.size + 1 + 1) ms pre) ∧ Blk W w.heap.size 1 (fun _ => .pointer none) ∧ Below w.heap.size w W
theorem cloneI.own (w : World) : OwnFrom w.heap.size (cloneI w) := fun s X Y row ⟨⟨ms, hm⟩, hb, hB⟩ hg hr =>
  ⟨⟨ms, hm.own hg fun r e => (hr r e).2⟩, hb.own (by omega) hg fun r e => (hr r e).2, hB.grown hg hB.size fun k e => (hr k e).1⟩

set_option maxRecDepth 100000 in
set_option maxHeartbeats 4000000 in
theorem clone_in (n : Nat) (hn : 3 ≤ n) (b : Nat) (ns : List Nat) (ws : List Cn.Wt) (w : World) (hnd : ns.Nodup) (hb : b < w.heap.size) (hp : w.cell? ⟨b, 53, none⟩ = some (.pointer (ptrAt ns 0))) (hch : Chain w ns ws) :
    CallsIn Fence.wide n Tryd.prog 47 #[.pointer (some ⟨b, 53, none⟩)] w (clonePost w ws) := by
  have h1 : 1 ≤ n := by omega
  have hB0 : Below w.heap.size w (((w.alloc (.cells #[.pointer none] 77)).alloc (.cells #[.pointer none] 77)).alloc (.cells #[.pointer (some ⟨w.heap.size + 1, 0, none⟩)] 120)) := ((one w _).alloc (by simp) _).alloc (by simp; omega) _
  refine callsIn_of_wp_marks Tryd.func47 rfl trivial ?_ rfl
  simp only [Tryd.ntmps47, List.size_toArray, List.length_cons, List.length_nil, Nat.reduceAdd, Nat.reduceSub, Array.replicate_succ, Array.replicate_zero, List.push_toArray, List.append_toArray, List.nil_append, List.cons_append]
  gi_wp2
  refine ⟨trivial, (qall_in Fence.wide (n - 1) trivial rfl b _).mono ?_⟩
  rintro e w' ⟨rfl, rfl⟩
  have hI0 : cloneI w [] (((w.alloc (.cells #[.pointer none] 77)).alloc (.cells #[.pointer none] 77)).alloc (.cells #[.pointer (some ⟨w.heap.size + 1, 0, none⟩)] 120)) := by
    refine ⟨⟨[], ⟨rfl, fun k m x hm _ => by simp at hm⟩, by simp, by simp, ?_, ?_, by omega⟩, ?_, hB0⟩
    · have h := Blk.new (w.alloc (.cells #[.pointer none] 77)) #[.pointer none] 77
      rw [World.size_alloc] at h
      exact Blk.ext1 (h.alloc _) rfl
    · have h := Blk.new ((w.alloc (.cells #[.pointer none] 77)).alloc (.cells #[.pointer none] 77)) #[.pointer (some ⟨w.heap.size + 1, 0, none⟩)] 120
      rw [World.size_alloc, World.size_alloc] at h
      exact Blk.ext1 h rfl
    · exact Blk.ext1 (((Blk.new w #[.pointer none] 77).alloc _).alloc _) rfl
  have HI0 := Lib.hid hI0
  have HB0 := Lib.hid hB0
  clear hI0 hB0
  gi_wp2
  refine wpIn_rangeFunc_ownH (F := Fence.wide) rfl h1 (gf := 53) (lb := #[.pointer (some ⟨w.heap.size + 1 + 1 + 1, 0, none⟩)]) rfl trivial (enters_of Tryd.func53 (by kernel_rfl) rfl)
    (qall_stops Fence.wide (n - 1) trivial rfl (by omega) (w.heap.size + 1 + 1 + 1) w.heap.size b ns ws hnd hch.lt hb _ (by simp) (by simp; omega) (World.cell?_alloc_at _ _ _ _ (by simp)) ((((HB0.out.alloc (by simp; omega) _).cell (p := ⟨b, 53, none⟩) hb)).trans hp) (hch.belowN (HB0.out.alloc (by simp; omega) _) hch.lt))
    belowK_t (belowK_b (by simp; omega)) (Below.refl _ _) (fun _ => rfl)
    (cloneI w) (fun _ _ _ => False)
    (fun s X Y row hs hg hr => cloneI.own w s X Y row hs hg (fun r e => ⟨by have := (hr r e).1; simp at this; omega, (hr r e).2⟩))
    (fun _ _ _ _ _ hs _ _ => hs)
    (by obtain ⟨⟨ms, hm⟩, hb2, hB⟩ := HI0.out; exact ⟨⟨ms, hm.alloc _⟩, hb2.alloc _, hB.alloc hB.size _⟩)
    (fun x a' W => ∃ Bx, w.heap.size + 1 + 1 < Bx ∧ CellsAt W Bx (wCells x).toArray 59 ∧ a' = { tmps := #[.pointer (some ⟨b, 53, none⟩), undef, .pointer (some ⟨w.heap.size, 0, none⟩), .pointer (some ⟨w.heap.size + 1, 0, none⟩), .pointer (some ⟨w.heap.size + 1 + 1, 0, none⟩), .pointer (some ⟨Bx, 0, none⟩), .pointer (some ⟨w.heap.size + 1, 0, none⟩), .pointer (some ⟨b, 53, none⟩), .func (.func 53) #[] #[.pointer (some ⟨w.heap.size + 1 + 1 + 1, 0, none⟩)], wtV x.t x.send x.v.k x.v.n x.v.s, undef, undef, undef, undef, undef, undef, undef, undef, undef, undef, undef], defers := [] })
    (fun x a' => ?own) ?assign ?body ?done ?stop
  case own =>
    rintro - X Y row ⟨Bx, k1, k2, k3⟩ hg hr
    exact ⟨Bx, k1, cellsAt_own Bx (fun _ : Unit => (wCells x).toArray) 59 () X Y row k2 hg (fun r e => (hr r e).2), k3⟩
  case assign =>
    rintro l pre x W K ⟨⟨ms, hm⟩, hb2, hB⟩ hK
    gi_wp2
    exact hK _ _ ((KeepsOthers.alloc _ _).from _) ((Below.refl _ W).alloc hB.size _) ⟨⟨ms, hm.alloc _⟩, hb2.alloc _, hB.alloc hB.size _⟩ ⟨W.heap.size, hm.tail.lt, CellsAt.new _ _ _, rfl⟩
  case body =>
    rintro l pre x a' W hl ⟨r, hr⟩ ⟨⟨ms, hm⟩, hb2, hB⟩ ⟨Bx, hBx, hbx, rfl⟩ hlt
    have b0 : W.cell? ⟨Bx, 0, none⟩ = some (.int .i64 x.t) := hbx.cell 0
    have b1 : W.cell? ⟨Bx, 1, none⟩ = some (.bool x.send) := hbx.cell 1
    have b2 : W.cell? ⟨Bx, 2, none⟩ = some (.int .i64 x.v.k) := hbx.cell 2
    have b3 : W.cell? ⟨Bx, 3, none⟩ = some (.int .i64 x.v.n) := hbx.cell 3
    have b4 : W.cell? ⟨Bx, 4, none⟩ = some (.string x.v.s) := hbx.cell 4
    have hbl := hbx.lt
    have hBs := hB.size
    obtain ⟨lb, lo, hlk, ⟨u, hu⟩, hfz, hlbl, hlbe, hble⟩ := hm.link
    have t0 := hm.tail.cell 0 (by omega)
    have tz := hm.tail.fz 0
    have tl := hm.tail.lt
    simp only [hlk] at t0
    have HL := Lib.hid hlk
    have HM := Lib.hid hm
    have HB := Lib.hid hB
    have HB2 := Lib.hid hb2
    have hne1 : W.heap.size ≠ lb := by omega
    have hne2 : W.heap.size ≠ w.heap.size + 1 + 1 := by omega
    clear hlk hm hB hb2
    gi_wp2
    have hnode : Blk (W.alloc (.cells #[.int .i64 x.t, .bool x.send, .int .i64 x.v.k, .int .i64 x.v.n, .string x.v.s, .pointer none] 114)) W.heap.size 6 (nodeG x none) := by
      refine (Blk.new W #[.int .i64 x.t, .bool x.send, .int .i64 x.v.k, .int .i64 x.v.n, .string x.v.s, .pointer none] 114).ext fun o ho => ?_
      have : o = 0 ∨ o = 1 ∨ o = 2 ∨ o = 3 ∨ o = 4 ∨ o = 5 := by simp at ho; omega
      rcases this with rfl | rfl | rfl | rfl | rfl | rfl <;> rfl
    have hsn := (HM.out.alloc (.cells #[.int .i64 x.t, .bool x.send, .int .i64 x.v.k, .int .i64 x.v.n, .string x.v.s, .pointer none] 114)).snoc (m := W.heap.size) (fun y hy => HM.out.chain.lt y hy) (by omega) hnode
    rw [HL.out, World.setCell_alloc_past _ _ _ _ hlbl, World.setCell_alloc_past _ _ _ _ (by simpa [World.setCell] using tl)] at hsn
    refine ⟨(((KeepsOthers.setCell _ _ _).trans (KeepsOthers.setCell _ _ _)).trans (KeepsOthers.alloc _ _)).from _, ?_, ⟨_, hsn⟩, ?_, ?_⟩
    · exact ((((Below.refl w.heap.size W).setCell (p := ⟨lb, lo, none⟩) (by show w.heap.size ≤ lb; omega) _).setCell (p := ⟨w.heap.size + 1 + 1, 0, none⟩) (by show w.heap.size ≤ w.heap.size + 1 + 1; omega) _).alloc (by simp [World.setCell]; omega) _)
    · exact ((HB2.out.set_other (b' := lb) (by omega) _).set_other (b' := w.heap.size + 1 + 1) (by omega) _).alloc _
    · exact HB.out.trans ((((Below.refl w.heap.size W).setCell (p := ⟨lb, lo, none⟩) (by show w.heap.size ≤ lb; omega) _).setCell (p := ⟨w.heap.size + 1 + 1, 0, none⟩) (by show w.heap.size ≤ w.heap.size + 1 + 1; omega) _).alloc (by simp [World.setCell]; omega) _)
  case done =>
    rintro D ys W hD rfl ⟨⟨ms, hm⟩, hb2, hB⟩ hK
    have t0 := hm.head.cell 0 (by omega)
    have q0 := hb2.cell 0 (by omega)
    have qz := hb2.fz 0
    have ql := hb2.lt
    gi_wp2
    have hK2 : (W.setCell ⟨w.heap.size, 0, none⟩ (.pointer (ptrAt ms 0))).heap[D]? = some (.deferred (some [])) := (KeepsOthers.setCell _ _ _).same D _ hK rfl
    refine ⟨by simp, .inl ⟨_, _, rfl, run_takeDeferred hK2, ?_⟩⟩
    have hgp := grownBy_putObj' (W.setCell ⟨w.heap.size, 0, none⟩ (.pointer (ptrAt ms 0))) D (.deferred none)
    have hro : ∀ r, some D = some r → ∃ o : Obj, (W.setCell ⟨w.heap.size, 0, none⟩ (.pointer (ptrAt ms 0))).heap[r]? = some o ∧ o.isCells = false := fun r e => by cases e; exact ⟨_, hK2, rfl⟩
    have hr0 := ((hb2.set (o := 0) (by omega) (.pointer (ptrAt ms 0))).own (by omega) hgp hro).cell 0 (by omega)
    rw [upd_same] at hr0
    refine ⟨.agg #[.pointer (ptrAt ms 0)], (by simp [results, Tryd.results47, go_sem, hr0]), ms, rfl, ?_, hm.nd, fun x hx => by have := hm.gt x hx; omega, ?_⟩
    · exact (hm.chain.set_other (fun h => by have := hm.gt _ h; omega) _).own hgp hro
    · exact (hB.setCell (p := ⟨w.heap.size, 0, none⟩) (Nat.le_refl _) _).trans (belowK_b (w := w) (Nat.le_refl _) _ D _ _ (by simp at hD; omega) hK2 rfl rfl)
  case stop =>
    rintro D c pre W _ _ h _
    exact h.elim
end Go.Proofs.YtlibkhndekgnfaaDoor
