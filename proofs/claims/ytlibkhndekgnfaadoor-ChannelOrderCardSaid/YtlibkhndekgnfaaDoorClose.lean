/- What Close does. -/
import Derived.Test.YtlibkhndekgnfaaDoorCopy
namespace Go.Proofs.YtlibkhndekgnfaaDoor
open Go.RowKit Go.Shelf

attribute [local go_sem] Oper.semAt_some

/-- The deal of a waiter when the channel is closed. -/
def closedDeal (x : Cn.Wt) : Cn.Dl := ⟨x.t, Cn.zero, true⟩
def closedCells (x : Cn.Wt) : List Value := [.int .i64 x.t, .int .i64 0, .int .i64 0, .int .i64 0, .string noS, .int .i64 1, .string closedS]
theorem closed_flat : ∀ ws : List Cn.Wt, (ws.map closedDeal).flatMap dealCells = ws.flatMap closedCells
  | [] => rfl
  | x :: r => by rw [List.map_cons, List.flatMap_cons, List.flatMap_cons, closed_flat r]; rfl

theorem fr_putObj {L : List Nat} {A W : World} (h : Fr L A W) {D : Nat} (hD : D ∈ L ∨ A.heap.size ≤ D) (o : Obj) : Fr L A (W.putObj D o) := by
  have hg := grownBy_putObj' W D o
  exact ⟨hg.os.trans h.os, hg.tape.trans h.tape, hg.output.trans h.output, Nat.le_trans h.size hg.size, fun k hk hn => (hg.block k (Nat.lt_of_lt_of_le hk h.size) (fun e => by
    have e' : k = D := by cases e; rfl
    subst e'
    rcases hD with hD | hD
    · exact hn hD
    · omega)).trans (h.block k hk hn)⟩

def closePost (w : World) (b : Nat) (c : Cn.St) (e : Ending) (w' : World) : Prop :=
  ∃ dv, e = .returned dv ∧ DealsAt w' w.heap.size dv (c.wait.map closedDeal) ∧ Rep w' b [] { c with closed := true, wait := [] } ∧ Fr [b] w w'

theorem Fits.close {g : Nat → Value} {f : Nat} {ns : List Nat} {c : Cn.St} (h : Fits g f ns c) : Fits (upd (upd g 2 (.bool true)) 53 (.pointer none)) f [] { c with closed := true, wait := [] } := by
  have h1 : Fits (upd g 53 (.pointer (ptrAt [] 0))) f [] { c with wait := [] } := h.next [] []
  have e : upd (upd g 2 (.bool true)) 53 (.pointer none) = upd (upd g 53 (.pointer (ptrAt [] 0))) 2 (.bool true) := by
    funext x
    unfold upd
    by_cases h53 : x = 53
    · subst h53; simp [ptrAt]
    · by_cases h2 : x = 2
      · subst h2; simp
      · simp [h53, h2]
  rw [e]
  have ne : ∀ o, o ≠ 2 → upd (upd g 53 (.pointer (ptrAt [] 0))) 2 (.bool true) o = upd g 53 (.pointer (ptrAt [] 0)) o := fun o ho => upd_other _ _ ho
  refine ⟨h1.lt, h1.cap, h1.len, h1.pol, (ne 0 (by omega)).trans h1.g0, (ne 1 (by omega)).trans h1.g1, upd_same _ _ _, (ne 51 (by omega)).trans h1.g51, (ne 52 (by omega)).trans h1.g52, (ne 53 (by omega)).trans h1.g53, (ne 54 (by omega)).trans h1.g54, fun o ho => ?_, fun i u hu => ?_⟩
  · by_cases h2 : o = 2
    · subst h2; rw [upd_same]; rfl
    · rw [ne o h2]; exact h1.one o ho
  · have hr := h1.ring i u hu
    rw [ne _ (by omega), ne _ (by omega), ne _ (by omega)]
    exact hr

theorem info57 : (Tryd.prog.info? 57).map (fun i => (i.zero, i.size, i.bytes)) = some (some (.agg #[.int .i64 0, .int .i64 0, .int .i64 0, .int .i64 0, .string ⟨#[]⟩, .int .i64 0, .string ⟨#[]⟩]), 7, 72) := by kernel_rfl

theorem close_closed (b : Nat) (ns : List Nat) (c : Cn.St) (w : World) (h : Rep w b ns c) (hc : c.closed = true) :
    Calls Tryd.prog 20 #[.pointer (some ⟨b, 0, none⟩)] w fun e w' => e = .returned (.slice none 0 0) ∧ w = w' := by
  have c2 := h.cells.2.2.1
  rw [hc] at c2
  clear h hc
  go_enter Tryd.func20, Tryd.ntmps20
  go_wp2
  go_ret
  exact ⟨rfl, rfl⟩

set_option maxRecDepth 100000 in
set_option maxHeartbeats 4000000 in
theorem close_in (n : Nat) (hn : 3 ≤ n) (b : Nat) (ns : List Nat) (c : Cn.St) (w : World) (h : Rep w b ns c) (henv : Env w) (hcl : c.closed = false) (hl : c.wait.length ≤ 1000) :
    CallsIn Fence.wide n Tryd.prog 20 #[.pointer (some ⟨b, 0, none⟩)] w (closePost w b c) := by
  have h1 : 1 ≤ n := by omega
  obtain ⟨i0, hi, hz0, hz1, hz2⟩ := info_parts info57
  obtain ⟨g, f, hb, hg⟩ := h.ex
  have hbl := hb.lt
  have c2 := hb.cell 2 (by omega)
  rw [hg.g2, hcl] at c2
  have hnd := List.nodup_cons.1 h.nd
  have HH := Lib.hid h
  have hmx : 2000 ≤ Go.maxLen := by decide
  refine callsIn_of_wp_marks Tryd.func20 rfl trivial ?_ rfl
  simp only [Tryd.ntmps20, List.size_toArray, List.length_cons, List.length_nil, Nat.reduceAdd, Nat.reduceSub, Array.replicate_succ, Array.replicate_zero, List.push_toArray, List.append_toArray, List.nil_append, List.cons_append]
  gi_wp2
  refine ⟨trivial, (qall_in Fence.wide (n - 1) trivial rfl b _).mono ?_⟩
  rintro e w' ⟨rfl, rfl⟩
  have hB0 : Below w.heap.size w ((w.alloc (.cells #[.slice none 0 0] 43)).alloc (.cells #[.pointer (some ⟨b, 53, none⟩)] 112)) := (one w _).alloc (by simp) _
  have HB0 := Lib.hid hB0
  clear hB0
  gi_wp2
  refine wpIn_rangeFunc_ownH (F := Fence.wide) rfl h1 (gf := 53) (lb := #[.pointer (some ⟨w.heap.size + 1, 0, none⟩)]) rfl trivial (enters_of Tryd.func53 (by kernel_rfl) rfl)
    (qall_stops Fence.wide (n - 1) trivial rfl (by omega) (w.heap.size + 1) w.heap.size b ns c.wait hnd.2 h.chain.lt hbl _ (by simp) (by simp; omega) (World.cell?_alloc_at _ _ _ _ (by simp)) ((HB0.out.cell (p := ⟨b, 53, none⟩) hbl).trans (by rw [hb.cell 53 (by omega), hg.g53])) (h.chain.belowN HB0.out h.chain.lt))
    belowK_t (belowK_b (by simp; omega)) (Below.refl _ _) (fun _ => rfl)
    (fun pre W => (∃ v, Boxed W w.heap.size 43 v ∧ W.ownsRow w.heap.size 57 7 v pre.length (pre.flatMap closedCells) ∧ (v = .slice none 0 0 ↔ pre = [])) ∧ Below w.heap.size w W)
    (fun _ _ _ => False)
    (OwnFrom.and (Own.from (holdsRow_own w.heap.size w.heap.size 43 57 7 (fun pre : List Cn.Wt => pre.length) (fun pre => pre.flatMap closedCells) (fun pre v => v = .slice none 0 0 ↔ pre = [])) _) (ownFrom_below (Nat.le_refl _) (by simp; omega)))
    (fun _ _ _ _ _ hs _ _ => hs)
    ⟨⟨_, (Boxed.new w 43 _).alloc _, World.ownsRow_nil _ _ _ _, by simp⟩, HB0.out⟩
    (fun x a' W => ∃ Bx, w.heap.size < Bx ∧ CellsAt W Bx (wCells x).toArray 59 ∧ a' = { tmps := #[.pointer (some ⟨b, 0, none⟩), undef, .slice none 0 0, .pointer (some ⟨w.heap.size, 0, none⟩), .pointer (some ⟨Bx, 0, none⟩), .pointer (some ⟨b, 0, none⟩), .bool false, .bool false, .pointer (some ⟨b, 0, none⟩), .pointer (some ⟨b, 0, none⟩), .pointer (some ⟨b, 2, none⟩), .bool false, .bool false, .pointer (some ⟨b, 0, none⟩), .pointer (some ⟨b, 0, none⟩), .pointer (some ⟨b, 53, none⟩), .func (.func 53) #[] #[.pointer (some ⟨w.heap.size + 1, 0, none⟩)], wtV x.t x.send x.v.k x.v.n x.v.s, undef, undef, undef, undef, undef, undef, undef, undef, undef, undef, undef, undef, undef, undef, undef], defers := [] })
    (fun x a' => ?own) ?assign ?body ?done ?stop
  case own =>
    rintro - X Y row ⟨Bx, k1, k2, k3⟩ hg hr
    exact ⟨Bx, k1, cellsAt_own Bx (fun _ : Unit => (wCells x).toArray) 59 () X Y row k2 hg (fun r e => (hr r e).2), k3⟩
  case assign =>
    rintro l pre x W K ⟨⟨v, hv, hr, hnil⟩, hB⟩ hK
    gi_wp2
    exact hK _ _ ((KeepsOthers.alloc _ _).from _) ((Below.refl _ W).alloc hB.size _) ⟨⟨v, hv.alloc _, hr.alloc _, hnil⟩, hB.alloc hB.size _⟩ ⟨W.heap.size, hv.lt, CellsAt.new _ _ _, rfl⟩
  case body =>
    rintro l pre x a' W hl ⟨r, hr⟩ ⟨⟨v, hv, hrow, hnil⟩, hB⟩ ⟨Bx, hBx, hbx, rfl⟩ hlt
    have hc := hv.cell
    have b0 : W.cell? ⟨Bx, 0, none⟩ = some (.int .i64 x.t) := hbx.cell 0
    have e0 := (henv.below hB).1
    have e1 := (henv.below hB).2
    have hbl := hbx.lt
    have hBs := hB.size
    have hln : pre.length < 1000 := by omega
    gi_wp2_with (gi_at_builtin; refine wpListIn_append_own _ rfl _ _ 43 rfl w.heap.size 57 i0 (.agg #[.int .i64 0, .int .i64 0, .int .i64 0, .int .i64 0, .string ⟨#[]⟩, .int .i64 0, .string ⟨#[]⟩]) 7 72 Tryd.underlying43 hi hz0 hz1 hz2 rfl (by decide) _ _ _ rfl (hrow.alloc _) ⟨W.heap.size, 0, none⟩ 1 1 (closedCells x) rfl rfl (cells_new W (closedCells x) 57) (by simp [closedCells, Value.oneCell']) (by omega) (by omega) (by simp; omega) ?_; intro v' w1 hown' hgrow _; obtain ⟨g', cap', rfl⟩ := ownsRow_succ hown'; obtain ⟨hv1, hv2, hr2, hk2, hb2⟩ := hv.appended (by decide) hrow hB.size (Nat.le_refl _) hown' hgrow; have hc1 := hv1.cell; have hf1 := hv1.frozen)
    exact ⟨hk2.from _, hb2, ⟨_, hv2, by rw [List.length_append, List.flatMap_append]; simpa using hr2, by simp⟩, hB.trans hb2⟩
  case done =>
    rintro D ys W hD rfl ⟨⟨v, hv, hrow, hnil⟩, hB⟩ hK
    have hc := hv.cell
    have hbW := hb.below hB hbl
    have d2 := hbW.cell 2 (by omega)
    rw [hg.g2, hcl] at d2
    have d53 := hbW.cell 53 (by omega)
    have z2 := hbW.fz 2
    have z53 := hbW.fz 53
    have hne : w.heap.size ≠ b := by omega
    gi_wp2
    have hK2 : ((W.setCell ⟨b, 2, none⟩ (.bool true)).setCell ⟨b, 53, none⟩ (.pointer none)).heap[D]? = some (.deferred (some [])) := ((KeepsOthers.setCell _ _ _).trans (KeepsOthers.setCell _ _ _)).same D _ hK rfl
    refine ⟨by simp, .inl ⟨_, _, rfl, run_takeDeferred hK2, ?_⟩⟩
    have hD' : w.heap.size < D := by simp at hD; omega
    have hbD : b ≠ D := by omega
    have hrow2 := owns_fr (L := [b]) hrow (((Fr.refl [b] W).set (b := b) (.inl (by simp)) 2 (.bool true)).set (b := b) (.inl (by simp)) 53 (.pointer none)) (fun k hk => by have := (World.ownsRow.lt hrow k hk).1; simp; omega)
    refine ⟨_, results_tmp rfl _ _ _, v, rfl, ⟨?_, ?_⟩, ?_, ?_⟩
    · rw [closed_flat, List.length_map]
      exact ownsRow_putObj hrow2 _ hK2 rfl
    · rw [hnil]; simp
    · have hr2 : Rep ((W.setCell ⟨b, 2, none⟩ (.bool true)).setCell ⟨b, 53, none⟩ (.pointer none)) b [] { c with closed := true, wait := [] } :=
        ⟨⟨_, f, (hbW.set (o := 2) (by omega) _).set (o := 53) (by omega) _, hg.close⟩, ⟨rfl, fun k m x hm _ => by simp at hm⟩, by simp⟩
      exact hr2.fr (fr_putObj (Fr.refl [D] _) (.inl (by simp)) _) (by simp; exact hbD)
    · exact fr_putObj ((((Fr.of_below hB).set (.inl (by simp)) _ _).set (.inl (by simp)) _ _)) (.inr (by omega)) _
  case stop =>
    rintro D c pre W _ _ h _
    exact h.elim
theorem close_any (b : Nat) (ns : List Nat) (c : Cn.St) (w : World) (h : Rep w b ns c) (henv : Env w) (hcl : c.closed = false) (hl : c.wait.length ≤ 1000) :
    Calls Tryd.prog 20 #[.pointer (some ⟨b, 0, none⟩)] w (closePost w b c) := (callsIn_wide (n := 4)).1 (close_in 4 (by omega) b ns c w h henv hcl hl)
end Go.Proofs.YtlibkhndekgnfaaDoor
