/- What Park does. -/
import Derived.Test.YtlibkhndekgnfaaDoorClose
namespace Go.Proofs.YtlibkhndekgnfaaDoor
open Go.RowKit Go.Shelf

attribute [local go_sem] Oper.semAt_some

/-- What Park makes of a channel, and its error. -/
def park (c : Cn.St) (t : Int) (sd : Bool) (v : Cn.V) : Cn.St × Int :=
  if c.wait.any (fun x => x.t == t) then (c, 21) else if 200 ≤ c.wait.length then (c, 5) else ({ c with wait := c.wait ++ [⟨t, sd, if sd then v else Cn.zero⟩] }, 0)
def parkPost (w : World) (b : Nat) (ns : List Nat) (c : Cn.St) (t : Int) (sd : Bool) (v : Cn.V) (e : Ending) (w' : World) : Prop :=
  ∃ ns', (∀ x ∈ ns', x ∈ ns ∨ w.heap.size ≤ x) ∧ e = .returned (.int .i64 (park c t sd v).2) ∧ Rep w' b ns' (park c t sd v).1 ∧ Fr (b :: ns) w w'

def parkI (W1 : World) (t : Int) (pre : List Cn.Wt) (W : World) : Prop := Blk W W1.heap.size 1 (fun _ => .int .i64 (pre.length : Nat)) ∧ (∀ x ∈ pre, x.t ≠ t) ∧ Below W1.heap.size W1 W
def parkX (w : World) (t : Int) (c : Code) (pre : List Cn.Wt) (W : World) : Prop := c = .ret ∧ (∃ x ∈ pre, x.t = t) ∧ Blk W (w.heap.size + 1 + 1) 1 (fun _ => .int .i64 21) ∧ Below w.heap.size w W
theorem parkI.own (W1 : World) (t : Int) : OwnFrom W1.heap.size (parkI W1 t) := fun s X Y row ⟨hb, hn, hB⟩ hg hr =>
  ⟨hb.own (by omega) hg fun r e => (hr r e).2, hn, hB.grown hg hB.size fun k e => (hr k e).1⟩
theorem parkX.own (w : World) (t : Int) (c : Code) : OwnFrom w.heap.size (parkX w t c) := fun s X Y row ⟨hc, hx, hb, hB⟩ hg hr =>
  ⟨hc, hx, hb.own (by omega) hg fun r e => (hr r e).2, hB.grown hg hB.size fun k e => (hr k e).1⟩

set_option maxRecDepth 100000 in
set_option maxHeartbeats 4000000 in
theorem parktrue_in (n : Nat) (hn : 3 ≤ n) (b : Nat) (ns : List Nat) (c : Cn.St) (t : Int) (k m : Int) (s : ByteArray) (w : World) (h : Rep w b ns c) (ht : 1 ≤ t) (hv : validB k m s = true) (hs : s.size ≤ 9223372036854775807) (hl : c.wait.length ≤ 1000) :
    CallsIn Fence.wide n Tryd.prog 18 #[.pointer (some ⟨b, 0, none⟩), .int .i64 t, .bool true, valV k m s] w (parkPost w b ns c t true ⟨k, m, s⟩) := by
  have h1 : 1 ≤ n := by omega
  have hd : decide (t < 1) = false := by simp only [decide_eq_false_iff_not]; omega
  obtain ⟨g, f, hb, hg⟩ := h.ex
  have hbl := hb.lt
  have hnd := List.nodup_cons.1 h.nd
  have HH := Lib.hid h
  have hlt := h.chain.lt
  have HC := Lib.hid h.chain
  have c53 : Hid (w.cell? ⟨b, 53, none⟩ = some (.pointer (ptrAt ns 0))) := Lib.hid (by rw [hb.cell 53 (by omega), hg.g53])
  clear h hb hg
  have a1 := one w (.cells #[.int .i64 t] 3)
  have a3 : Below w.heap.size w (((w.alloc (.cells #[.int .i64 t] 3)).alloc (.cells #[.int .i64 k, .int .i64 m, .string s] 37)).alloc (.cells #[.int .i64 0] 24)) := (a1.alloc (by simp) _).alloc (by first | omega | (simp; done) | (simp; omega)) _
  have bT := ((Blk.new w #[.int .i64 t] 3).alloc (.cells #[.int .i64 k, .int .i64 m, .string s] 37)).alloc (.cells #[.int .i64 0] 24)
  have bV := (Blk.new (w.alloc (.cells #[.int .i64 t] 3)) #[.int .i64 k, .int .i64 m, .string s] 37).alloc (.cells #[.int .i64 0] 24)
  have b8 := Blk.new ((w.alloc (.cells #[.int .i64 t] 3)).alloc (.cells #[.int .i64 k, .int .i64 m, .string s] 37)) #[.int .i64 0] 24
  (try simp only [World.size_alloc] at bV b8)
  have V := valid_any k m s (((w.alloc (.cells #[.int .i64 t] 3)).alloc (.cells #[.int .i64 k, .int .i64 m, .string s] 37)).alloc (.cells #[.int .i64 0] 24)) hs
  rw [hv] at V
  have VV := Lib.hid V
  clear V hv
  have HT := Lib.hid bT
  have HV := Lib.hid bV
  have H8 := Lib.hid b8
  have HA3 := Lib.hid a3
  clear a1 a3 bT bV b8
  refine callsIn_of_wp_marks Tryd.func18 rfl trivial ?_ rfl
  simp only [Tryd.ntmps18, List.size_toArray, List.length_cons, List.length_nil, Nat.reduceAdd, Nat.reduceSub, Array.replicate_succ, Array.replicate_zero, List.push_toArray, List.append_toArray, List.nil_append, List.cons_append]
  gi_wp2
  refine ⟨trivial, (callsIn_wide.2 VV.out).mono ?_⟩
  rintro e w1 ⟨rfl, hb1⟩
  have hs1 := hb1.size
  simp only [World.size_alloc] at hs1
  have HB1 := Lib.hid (HA3.out.trans (hb1.mono (by simp; omega)))
  have HT1 := Lib.hid (HT.out.below hb1 (by simp; omega))
  have HV1 := Lib.hid (HV.out.below hb1 (by simp))
  have H81 := Lib.hid (H8.out.below hb1 (by simp))
  clear hb1 HT HV H8
  have hz1 : w.heap.size + 1 + 1 < w1.heap.size := by omega
  gi_wp2
  refine ⟨trivial, (qall_in Fence.wide (n - 1) trivial rfl b _).mono ?_⟩
  rintro e w' ⟨rfl, rfl⟩
  have hB9 : Below w.heap.size w (w1.alloc (.cells #[.int .i64 0] 3)) := HB1.out.alloc (by first | omega | (simp; done) | (simp; omega)) _
  have HB9 := Lib.hid hB9
  have H9 := Lib.hid (Blk.new w1 #[.int .i64 0] 3)
  clear hB9
  gi_wp2
  refine wpIn_rangeFunc_ownH (F := Fence.wide) rfl h1 (gf := 53) (lb := #[.pointer (some ⟨w1.heap.size + 1, 0, none⟩)]) rfl trivial (enters_of Tryd.func53 (by kernel_rfl) rfl)
    (qall_stops Fence.wide (n - 1) trivial rfl (by omega) (w1.heap.size + 1) w.heap.size b ns c.wait hnd.2 hlt hbl _ (by simp) (by first | omega | (simp; done) | (simp; omega)) (World.cell?_alloc_at _ _ _ _ (by simp)) (((HB9.out.alloc (by first | omega | (simp; done) | (simp; omega)) _).cell (p := ⟨b, 53, none⟩) hbl).trans c53.out) (HC.out.belowN (HB9.out.alloc (by first | omega | (simp; done) | (simp; omega)) _) hlt))
    belowK_t (belowK_b (by first | omega | (simp; done) | (simp; omega))) (Below.refl _ _) (fun _ => rfl)
    (parkI w1 t) (parkX w t)
    (fun sx X Y row hs hg hr => parkI.own w1 t sx X Y row hs hg (fun r e => ⟨by have := (hr r e).1; simp at this; first | omega | (simp; omega), (hr r e).2⟩))
    (fun cx sx X Y row hs hg hr => parkX.own w t cx sx X Y row hs hg (fun r e => ⟨by have := (hr r e).1; simp at this; omega, (hr r e).2⟩))
    ⟨Blk.ext1 (H9.out.alloc _) rfl, by simp, (one _ _).alloc (by simp) _⟩
    (fun x a' W => ∃ Bx, w1.heap.size < Bx ∧ CellsAt W Bx (wCells x).toArray 59 ∧ a' = { tmps := #[.pointer (some ⟨b, 0, none⟩), .int .i64 t, .bool true, valV k m s, undef, .pointer (some ⟨w.heap.size, 0, none⟩), undef, .pointer (some ⟨w.heap.size + 1, 0, none⟩), .pointer (some ⟨w.heap.size + 1 + 1, 0, none⟩), .pointer (some ⟨w1.heap.size, 0, none⟩), .pointer (some ⟨Bx, 0, none⟩), .pointer (some ⟨b, 0, none⟩), .bool false, .bool false, .int .i64 t, .bool false, .bool false, .bool false, .bool true, .bool true, .agg #[.int .i64 k, .int .i64 m, .string s], .bool true, .bool false, .bool false, .bool false, .pointer (some ⟨b, 0, none⟩), .pointer (some ⟨b, 0, none⟩), .pointer (some ⟨b, 53, none⟩), .func (.func 53) #[] #[.pointer (some ⟨w1.heap.size + 1, 0, none⟩)], wtV x.t x.send x.v.k x.v.n x.v.s, undef, undef, undef, undef, undef, undef, undef, undef, undef, undef, undef, undef, undef, undef, undef, undef, undef, undef, undef], defers := [] })
    (fun x a' => ?own) ?assign ?body ?done ?stop
  case own =>
    rintro - X Y row ⟨Bx, k1, k2, k3⟩ hg hr
    exact ⟨Bx, k1, cellsAt_own Bx (fun _ : Unit => (wCells x).toArray) 59 () X Y row k2 hg (fun r e => (hr r e).2), k3⟩
  case assign =>
    rintro l pre x W K ⟨hv, hne, hB⟩ hK
    have hs := hB.size
    have hvl := hv.lt
    (try simp only [World.size_alloc] at hs hvl)
    gi_wp2
    exact hK _ _ ((KeepsOthers.alloc _ _).from _) ((Below.refl _ W).alloc (by omega) _) ⟨hv.alloc _, hne, hB.alloc hB.size _⟩ ⟨W.heap.size, hvl, CellsAt.new _ _ _, rfl⟩
  case body =>
    rintro l pre x a' W hl0 ⟨r, hr⟩ ⟨hv, hne, hB⟩ ⟨Bx, hBx, hbx, rfl⟩ hlp
    have b0 : W.cell? ⟨Bx, 0, none⟩ = some (.int .i64 x.t) := hbx.cell 0
    have t0 : W.cell? ⟨w.heap.size, 0, none⟩ = some (.int .i64 t) := (HT1.out.below hB (by first | omega | (simp; done) | (simp; omega))).cell 0 (by simp)
    have q8 := H81.out.below hB (by first | omega | (simp; done) | (simp; omega))
    have r8 : W.cell? ⟨w.heap.size + 1 + 1, 0, none⟩ = some (.int .i64 0) := q8.cell 0 (by simp)
    have z8 := q8.fz 0
    have l8 := q8.lt
    have v0 := hv.cell 0 (by omega)
    have vz := hv.fz 0
    have hvl := hv.lt
    have hbl2 := hbx.lt
    have hs := hB.size
    (try simp only [World.size_alloc] at v0 vz hvl hs)
    have HV := Lib.hid hv
    have HB := Lib.hid hB
    have HN := Lib.hid hne
    have H8W := Lib.hid q8
    clear hv hB hne q8
    by_cases hx : x.t = t
    · have hb1 : (x.t == t) = true := by simpa using hx
      have HX := Lib.hid hx
      clear hx
      gi_wp2
      exact ⟨(KeepsOthers.setCell _ _ _).from _, rfl, ⟨x, by simp, HX.out⟩, Blk.ext1 (H8W.out.set (o := 0) (by simp) _) (upd_same _ _ _), ((HB1.out.trans (HB.out.mono (by first | omega | (simp; done) | (simp; omega)))).setCell (p := ⟨w.heap.size + 1 + 1, 0, none⟩) (by show w.heap.size ≤ w.heap.size + 1 + 1; omega) _)⟩
    · have hb1 : (x.t == t) = false := by simpa using hx
      have HX := Lib.hid hx
      clear hx
      gi_wp2
      refine ⟨(KeepsOthers.setCell _ _ _).from _, (Below.refl w.heap.size W).setCell (p := ⟨w1.heap.size, 0, none⟩) (by show w.heap.size ≤ w1.heap.size; omega) _, ?_, ?_, ?_⟩
      · have := HV.out.set (o := 0) (by omega) (.int .i64 ((pre.length : Int) + 1))
        (try simp only [World.size_alloc] at this)
        simpa [parkI] using Blk.ext1 this (upd_same _ _ _)
      · intro y hy
        rcases List.mem_append.1 hy with hy | hy
        · exact HN.out y hy
        · simp at hy; subst hy; exact HX.out
      · exact HB.out.setCell (p := ⟨w1.heap.size, 0, none⟩) (by simp) _
  case done =>
    rintro D ys W hD rfl ⟨hv, hne, hB⟩ hK
    have t0 : W.cell? ⟨w.heap.size, 0, none⟩ = some (.int .i64 t) := (HT1.out.below hB (by first | omega | (simp; done) | (simp; omega))).cell 0 (by simp)
    have q7 := HV1.out.below hB (by first | omega | (simp; done) | (simp; omega))
    have v0 : W.cell? ⟨w.heap.size + 1, 0, none⟩ = some (.int .i64 k) := q7.cell 0 (by simp)
    have v1 : W.cell? ⟨w.heap.size + 1, 1, none⟩ = some (.int .i64 m) := q7.cell 1 (by simp)
    have v2 : W.cell? ⟨w.heap.size + 1, 2, none⟩ = some (.string s) := q7.cell 2 (by simp)
    have y0 := q7.fz 0
    have y1 := q7.fz 1
    have y2 := q7.fz 2
    have q8 := H81.out.below hB (by first | omega | (simp; done) | (simp; omega))
    have r8 : W.cell? ⟨w.heap.size + 1 + 1, 0, none⟩ = some (.int .i64 0) := q8.cell 0 (by simp)
    have z8 := q8.fz 0
    have l8 := q8.lt
    have n0 := hv.cell 0 (by omega)
    (try simp only [World.size_alloc] at n0)
    have HFW : Hid (Fr [] w W) := Lib.hid (Fr.of_below (HB1.out.trans (hB.mono (by first | omega | (simp; done) | (simp; omega)))))
    have HRW := Lib.hid (HH.out.fr HFW.out (by simp))
    have HAny : Hid (c.wait.any (fun x => x.t == t) = false) := Lib.hid (by
      rw [List.any_eq_false]
      intro x hx
      have := hne x hx
      simpa using this)
    have HKd := Lib.hid hK
    have H8W := Lib.hid q8
    have H7 := Lib.hid q7
    have hDw : w.heap.size + 1 + 1 < D := by simp at hD; omega
    have hn0 : w.heap.size ∉ b :: ns := fun hm => by have := HH.out.lt _ hm; omega
    have hn1 : w.heap.size + 1 ∉ b :: ns := fun hm => by have := HH.out.lt _ hm; omega
    have hn2 : w.heap.size + 1 + 1 ∉ b :: ns := fun hm => by have := HH.out.lt _ hm; omega
    clear hv hne hB hK q7 q8
    by_cases h200 : 200 ≤ c.wait.length
    · have h2 : (200 : Int) ≤ (c.wait.length : Int) := by omega
      have HP : Hid (park c t true ⟨k, m, s⟩ = (c, 5)) := Lib.hid (by unfold park; rw [HAny.out, if_neg (by simp), if_pos h200])
      gi_wp2
      have hK2 := (KeepsOthers.setCell W ⟨w.heap.size + 1 + 1, 0, none⟩ (.int .i64 5)).same D _ HKd.out rfl
      refine ⟨by simp, .inl ⟨_, _, rfl, run_takeDeferred hK2, ?_⟩⟩
      have hgp := grownBy_putObj' (W.setCell ⟨w.heap.size + 1 + 1, 0, none⟩ (.int .i64 5)) D (.deferred none)
      have hr0 := ((H8W.out.set (o := 0) (by simp) (.int .i64 5)).own (by simp) hgp (fun r e => by cases e; exact ⟨_, hK2, rfl⟩)).cell 0 (by simp)
      rw [upd_same] at hr0
      refine ⟨.int .i64 5, (by simp [results, Tryd.results18, go_sem, hr0]), ns, fun x hx => .inl hx, by rw [HP.out], ?_, ?_⟩
      · rw [HP.out]
        exact HRW.out.fr (L := [w.heap.size + 1 + 1, D]) (fr_putObj ((Fr.refl _ _).set (.inl (by simp)) _ _) (.inl (by simp)) _) (fun y hy => by have := HH.out.lt y hy; simp; omega)
      · exact fr_putObj ((HFW.out.widen (L' := b :: ns) (by simp)).set (.inr (by omega)) _ _) (.inr (by omega)) _
    · have h2 : ((c.wait.length : Nat) : Int) < 200 := by omega
      have HP : Hid (park c t true ⟨k, m, s⟩ = ({ c with wait := c.wait ++ [⟨t, true, ⟨k, m, s⟩⟩] }, 0)) := Lib.hid (by unfold park; rw [HAny.out, if_neg (by simp), if_neg h200]; rfl)
      gi_wp2
      refine wpIn_wide.2 ?_
      go_region_held3 (fun w' => w'.cell? ⟨w.heap.size, 0, none⟩ = some (.int .i64 t) ∧ w'.cell? ⟨w.heap.size + 1, 0, none⟩ = some (.int .i64 k) ∧ w'.cell? ⟨w.heap.size + 1, 1, none⟩ = some (.int .i64 m) ∧ w'.cell? ⟨w.heap.size + 1, 2, none⟩ = some (.string s)) (first | go_keep | exact ⟨frc hF5 (by first | exact t0) hn0 (by first | omega | (simp; omega)), frc hF5 (by first | exact v0) hn1 (by first | omega | (simp; omega)), frc hF5 (by first | exact v1) hn1 (by first | omega | (simp; omega)), frc hF5 (by first | exact v2) hn1 (by first | omega | (simp; omega))⟩) ((go_at_call 45; refine (add_any b ns c t true k m s _ (HH.out.fr (HFW.out.drewN _) (by simp))).mono ?_; rintro e w5 ⟨m5, hm5, rfl, hR5, hF5⟩))
      all_goals have hDl := (Array.getElem?_eq_some_iff.1 HKd.out).1
      all_goals have hD5 : w5.heap[D]? = some (.deferred (some [])) := (hF5.block D (by first | (simp; omega) | (simp [World.setCell]; omega)) (fun hm => by have := HH.out.lt _ hm; omega)).trans (by exact HKd.out)
      all_goals have q8 := (H8W.out.drewN _).fr hF5 hn2
      all_goals have r85 : w5.cell? ⟨w.heap.size + 1 + 1, 0, none⟩ = some (.int .i64 0) := q8.cell 0 (by simp)
      all_goals have z85 := q8.fz 0
      all_goals have H85 := Lib.hid q8
      all_goals have HR5 := Lib.hid hR5
      all_goals have HF5 : Hid (Fr (b :: ns) w w5) := Lib.hid ((((HFW.out).widen (L' := b :: ns) (by simp)).drewN _).thenL hF5 (fun x hx => .inl hx))
      all_goals have hzz := HF5.out.size
      all_goals clear hF5 hR5 q8
      all_goals gi_wp2
      all_goals have hK2 := (KeepsOthers.setCell w5 ⟨w.heap.size + 1 + 1, 0, none⟩ (.int .i64 0)).same D _ hD5 rfl
      all_goals refine ⟨by simp, .inl ⟨_, _, rfl, run_takeDeferred hK2, ?_⟩⟩
      all_goals have hgp := grownBy_putObj' (w5.setCell ⟨w.heap.size + 1 + 1, 0, none⟩ (.int .i64 0)) D (.deferred none)
      all_goals have hr0 := ((H85.out.set (o := 0) (by simp) (.int .i64 0)).own (by simp) hgp (fun r e => by cases e; exact ⟨_, hK2, rfl⟩)).cell 0 (by simp)
      all_goals rw [upd_same] at hr0
      all_goals refine ⟨.int .i64 0, (by simp [results, Tryd.results18, go_sem, hr0]), ns ++ [m5], ?_, by rw [HP.out], ?_, ?_⟩
      · intro x hx
        rcases List.mem_append.1 hx with hx | hx
        · exact .inl hx
        · simp at hx; subst hx; exact .inr (by first | (simp at hm5; omega) | (simp [World.setCell] at hm5; omega))
      · rw [HP.out]
        refine HR5.out.fr (L := [w.heap.size + 1 + 1, D]) (fr_putObj ((Fr.refl _ _).set (.inl (by simp)) _ _) (.inl (by simp)) _) (fun y hy => ?_)
        have hlt5 : W.heap.size ≤ m5 := by first | (simpa using hm5) | (simpa [World.setCell] using hm5)
        rcases List.mem_cons.1 hy with rfl | hy
        · simp; omega
        · rcases List.mem_append.1 hy with hy | hy
          · have := HH.out.lt y (List.mem_cons_of_mem _ hy); simp; omega
          · simp at hy; subst hy; simp; omega
      · exact fr_putObj (HF5.out.set (.inr (by omega)) _ _) (.inr (by omega)) _
  case stop =>
    rintro D cx pre W hD hpre ⟨rfl, ⟨x, hxm, hxt⟩, hb8, hB⟩ hK
    have hDw : w.heap.size + 1 + 1 < D := by simp at hD; omega
    have HP : Hid (park c t true ⟨k, m, s⟩ = (c, 21)) := Lib.hid (by
      unfold park
      rw [if_pos]
      rw [List.any_eq_true]
      exact ⟨x, hpre.subset hxm, by simpa using hxt⟩)
    gi_wp2
    refine ⟨by simp, .inl ⟨_, _, rfl, run_takeDeferred hK, ?_⟩⟩
    have hgp := grownBy_putObj' W D (.deferred none)
    have hr0 := (hb8.own (by omega) hgp (fun r e => by cases e; exact ⟨_, hK, rfl⟩)).cell 0 (by omega)
    refine ⟨.int .i64 21, (by simp [results, Tryd.results18, go_sem, hr0]), ns, fun x hx => .inl hx, by rw [HP.out], ?_, ?_⟩
    · rw [HP.out]
      exact (HH.out.below hB).fr (L := [D]) (fr_putObj (Fr.refl _ _) (.inl (by simp)) _) (fun y hy => by have := HH.out.lt y hy; simp; omega)
    · exact fr_putObj (Fr.of_below hB) (.inr (by omega)) _

set_option maxRecDepth 100000 in
set_option maxHeartbeats 4000000 in
theorem parkfalse_in (n : Nat) (hn : 3 ≤ n) (b : Nat) (ns : List Nat) (c : Cn.St) (t : Int) (k m : Int) (s : ByteArray) (w : World) (h : Rep w b ns c) (ht : 1 ≤ t)  (hl : c.wait.length ≤ 1000) :
    CallsIn Fence.wide n Tryd.prog 18 #[.pointer (some ⟨b, 0, none⟩), .int .i64 t, .bool false, valV k m s] w (parkPost w b ns c t false ⟨k, m, s⟩) := by
  have h1 : 1 ≤ n := by omega
  have hd : decide (t < 1) = false := by simp only [decide_eq_false_iff_not]; omega
  obtain ⟨g, f, hb, hg⟩ := h.ex
  have hbl := hb.lt
  have hnd := List.nodup_cons.1 h.nd
  have HH := Lib.hid h
  have hlt := h.chain.lt
  have HC := Lib.hid h.chain
  have c53 : Hid (w.cell? ⟨b, 53, none⟩ = some (.pointer (ptrAt ns 0))) := Lib.hid (by rw [hb.cell 53 (by omega), hg.g53])
  clear h hb hg
  have a1 := one w (.cells #[.int .i64 t] 3)
  have a3 : Below w.heap.size w (((w.alloc (.cells #[.int .i64 t] 3)).alloc (.cells #[.int .i64 k, .int .i64 m, .string s] 37)).alloc (.cells #[.int .i64 0] 24)) := (a1.alloc (by simp) _).alloc (by first | omega | (simp; done) | (simp; omega)) _
  have bT := ((Blk.new w #[.int .i64 t] 3).alloc (.cells #[.int .i64 k, .int .i64 m, .string s] 37)).alloc (.cells #[.int .i64 0] 24)
  have bV := (Blk.new (w.alloc (.cells #[.int .i64 t] 3)) #[.int .i64 k, .int .i64 m, .string s] 37).alloc (.cells #[.int .i64 0] 24)
  have b8 := Blk.new ((w.alloc (.cells #[.int .i64 t] 3)).alloc (.cells #[.int .i64 k, .int .i64 m, .string s] 37)) #[.int .i64 0] 24
  (try simp only [World.size_alloc] at bV b8)

  have HT := Lib.hid bT
  have HV := Lib.hid bV
  have H8 := Lib.hid b8
  have HA3 := Lib.hid a3
  clear a1 a3 bT bV b8
  refine callsIn_of_wp_marks Tryd.func18 rfl trivial ?_ rfl
  simp only [Tryd.ntmps18, List.size_toArray, List.length_cons, List.length_nil, Nat.reduceAdd, Nat.reduceSub, Array.replicate_succ, Array.replicate_zero, List.push_toArray, List.append_toArray, List.nil_append, List.cons_append]
  gi_wp2
  refine ⟨trivial, ?_⟩
  have HB1 := HA3
  have HT1 := HT
  have HV1 := HV
  have H81 := H8
  have hz1 : w.heap.size + 1 + 1 < w.heap.size + 1 + 1 + 1 := by omega
  gi_wp2
  refine ⟨trivial, (qall_in Fence.wide (n - 1) trivial rfl b _).mono ?_⟩
  rintro e w' ⟨rfl, rfl⟩
  have hB9 : Below w.heap.size w ((((w.alloc (.cells #[.int .i64 t] 3)).alloc (.cells #[.int .i64 k, .int .i64 m, .string s] 37)).alloc (.cells #[.int .i64 0] 24)).alloc (.cells #[.int .i64 0] 3)) := HB1.out.alloc (by first | omega | (simp; done) | (simp; omega)) _
  have HB9 := Lib.hid hB9
  have H9 := Lib.hid (Blk.new (((w.alloc (.cells #[.int .i64 t] 3)).alloc (.cells #[.int .i64 k, .int .i64 m, .string s] 37)).alloc (.cells #[.int .i64 0] 24)) #[.int .i64 0] 3)
  clear hB9
  gi_wp2
  refine wpIn_rangeFunc_ownH (F := Fence.wide) rfl h1 (gf := 53) (lb := #[.pointer (some ⟨w.heap.size + 1 + 1 + 1 + 1, 0, none⟩)]) rfl trivial (enters_of Tryd.func53 (by kernel_rfl) rfl)
    (qall_stops Fence.wide (n - 1) trivial rfl (by omega) (w.heap.size + 1 + 1 + 1 + 1) w.heap.size b ns c.wait hnd.2 hlt hbl _ (by simp) (by first | omega | (simp; done) | (simp; omega)) (World.cell?_alloc_at _ _ _ _ (by simp)) (((HB9.out.alloc (by first | omega | (simp; done) | (simp; omega)) _).cell (p := ⟨b, 53, none⟩) hbl).trans c53.out) (HC.out.belowN (HB9.out.alloc (by first | omega | (simp; done) | (simp; omega)) _) hlt))
    belowK_t (belowK_b (by first | omega | (simp; done) | (simp; omega))) (Below.refl _ _) (fun _ => rfl)
    (parkI (((w.alloc (.cells #[.int .i64 t] 3)).alloc (.cells #[.int .i64 k, .int .i64 m, .string s] 37)).alloc (.cells #[.int .i64 0] 24)) t) (parkX w t)
    (fun sx X Y row hs hg hr => parkI.own (((w.alloc (.cells #[.int .i64 t] 3)).alloc (.cells #[.int .i64 k, .int .i64 m, .string s] 37)).alloc (.cells #[.int .i64 0] 24)) t sx X Y row hs hg (fun r e => ⟨by have := (hr r e).1; simp at this; first | omega | (simp; omega), (hr r e).2⟩))
    (fun cx sx X Y row hs hg hr => parkX.own w t cx sx X Y row hs hg (fun r e => ⟨by have := (hr r e).1; simp at this; omega, (hr r e).2⟩))
    ⟨Blk.ext1 (H9.out.alloc _) rfl, by simp, (one _ _).alloc (by simp) _⟩
    (fun x a' W => ∃ Bx, w.heap.size + 1 + 1 + 1 < Bx ∧ CellsAt W Bx (wCells x).toArray 59 ∧ a' = { tmps := #[.pointer (some ⟨b, 0, none⟩), .int .i64 t, .bool false, valV k m s, undef, .pointer (some ⟨w.heap.size, 0, none⟩), undef, .pointer (some ⟨w.heap.size + 1, 0, none⟩), .pointer (some ⟨w.heap.size + 1 + 1, 0, none⟩), .pointer (some ⟨w.heap.size + 1 + 1 + 1, 0, none⟩), .pointer (some ⟨Bx, 0, none⟩), .pointer (some ⟨b, 0, none⟩), .bool false, .bool false, .int .i64 t, .bool false, .bool false, .bool false, .bool false, .bool false, undef, undef, undef, .bool false, .bool false, .pointer (some ⟨b, 0, none⟩), .pointer (some ⟨b, 0, none⟩), .pointer (some ⟨b, 53, none⟩), .func (.func 53) #[] #[.pointer (some ⟨w.heap.size + 1 + 1 + 1 + 1, 0, none⟩)], wtV x.t x.send x.v.k x.v.n x.v.s, undef, undef, undef, undef, undef, undef, undef, undef, undef, undef, undef, undef, undef, undef, undef, undef, undef, undef, undef], defers := [] })
    (fun x a' => ?own) ?assign ?body ?done ?stop
  case own =>
    rintro - X Y row ⟨Bx, k1, k2, k3⟩ hg hr
    exact ⟨Bx, k1, cellsAt_own Bx (fun _ : Unit => (wCells x).toArray) 59 () X Y row k2 hg (fun r e => (hr r e).2), k3⟩
  case assign =>
    rintro l pre x W K ⟨hv, hne, hB⟩ hK
    have hs := hB.size
    have hvl := hv.lt
    (try simp only [World.size_alloc] at hs hvl)
    gi_wp2
    exact hK _ _ ((KeepsOthers.alloc _ _).from _) ((Below.refl _ W).alloc (by omega) _) ⟨hv.alloc _, hne, hB.alloc hB.size _⟩ ⟨W.heap.size, hvl, CellsAt.new _ _ _, rfl⟩
  case body =>
    rintro l pre x a' W hl0 ⟨r, hr⟩ ⟨hv, hne, hB⟩ ⟨Bx, hBx, hbx, rfl⟩ hlp
    have b0 : W.cell? ⟨Bx, 0, none⟩ = some (.int .i64 x.t) := hbx.cell 0
    have t0 : W.cell? ⟨w.heap.size, 0, none⟩ = some (.int .i64 t) := (HT1.out.below hB (by first | omega | (simp; done) | (simp; omega))).cell 0 (by simp)
    have q8 := H81.out.below hB (by first | omega | (simp; done) | (simp; omega))
    have r8 : W.cell? ⟨w.heap.size + 1 + 1, 0, none⟩ = some (.int .i64 0) := q8.cell 0 (by simp)
    have z8 := q8.fz 0
    have l8 := q8.lt
    have v0 := hv.cell 0 (by omega)
    have vz := hv.fz 0
    have hvl := hv.lt
    have hbl2 := hbx.lt
    have hs := hB.size
    (try simp only [World.size_alloc] at v0 vz hvl hs)
    have HV := Lib.hid hv
    have HB := Lib.hid hB
    have HN := Lib.hid hne
    have H8W := Lib.hid q8
    clear hv hB hne q8
    by_cases hx : x.t = t
    · have hb1 : (x.t == t) = true := by simpa using hx
      have HX := Lib.hid hx
      clear hx
      gi_wp2
      exact ⟨(KeepsOthers.setCell _ _ _).from _, rfl, ⟨x, by simp, HX.out⟩, Blk.ext1 (H8W.out.set (o := 0) (by simp) _) (upd_same _ _ _), ((HB1.out.trans (HB.out.mono (by first | omega | (simp; done) | (simp; omega)))).setCell (p := ⟨w.heap.size + 1 + 1, 0, none⟩) (by show w.heap.size ≤ w.heap.size + 1 + 1; omega) _)⟩
    · have hb1 : (x.t == t) = false := by simpa using hx
      have HX := Lib.hid hx
      clear hx
      gi_wp2
      refine ⟨(KeepsOthers.setCell _ _ _).from _, (Below.refl w.heap.size W).setCell (p := ⟨w.heap.size + 1 + 1 + 1, 0, none⟩) (by show w.heap.size ≤ w.heap.size + 1 + 1 + 1; omega) _, ?_, ?_, ?_⟩
      · have := HV.out.set (o := 0) (by omega) (.int .i64 ((pre.length : Int) + 1))
        (try simp only [World.size_alloc] at this)
        simpa [parkI] using Blk.ext1 this (upd_same _ _ _)
      · intro y hy
        rcases List.mem_append.1 hy with hy | hy
        · exact HN.out y hy
        · simp at hy; subst hy; exact HX.out
      · exact HB.out.setCell (p := ⟨w.heap.size + 1 + 1 + 1, 0, none⟩) (by simp) _
  case done =>
    rintro D ys W hD rfl ⟨hv, hne, hB⟩ hK
    have t0 : W.cell? ⟨w.heap.size, 0, none⟩ = some (.int .i64 t) := (HT1.out.below hB (by first | omega | (simp; done) | (simp; omega))).cell 0 (by simp)
    have q7 := HV1.out.below hB (by first | omega | (simp; done) | (simp; omega))
    have v0 : W.cell? ⟨w.heap.size + 1, 0, none⟩ = some (.int .i64 k) := q7.cell 0 (by simp)
    have v1 : W.cell? ⟨w.heap.size + 1, 1, none⟩ = some (.int .i64 m) := q7.cell 1 (by simp)
    have v2 : W.cell? ⟨w.heap.size + 1, 2, none⟩ = some (.string s) := q7.cell 2 (by simp)
    have y0 := q7.fz 0
    have y1 := q7.fz 1
    have y2 := q7.fz 2
    have q8 := H81.out.below hB (by first | omega | (simp; done) | (simp; omega))
    have r8 : W.cell? ⟨w.heap.size + 1 + 1, 0, none⟩ = some (.int .i64 0) := q8.cell 0 (by simp)
    have z8 := q8.fz 0
    have l8 := q8.lt
    have n0 := hv.cell 0 (by omega)
    (try simp only [World.size_alloc] at n0)
    have HFW : Hid (Fr [] w W) := Lib.hid (Fr.of_below (HB1.out.trans (hB.mono (by first | omega | (simp; done) | (simp; omega)))))
    have HRW := Lib.hid (HH.out.fr HFW.out (by simp))
    have HAny : Hid (c.wait.any (fun x => x.t == t) = false) := Lib.hid (by
      rw [List.any_eq_false]
      intro x hx
      have := hne x hx
      simpa using this)
    have HKd := Lib.hid hK
    have H8W := Lib.hid q8
    have H7 := Lib.hid q7
    have hDw : w.heap.size + 1 + 1 < D := by simp at hD; omega
    have hn0 : w.heap.size ∉ b :: ns := fun hm => by have := HH.out.lt _ hm; omega
    have hn1 : w.heap.size + 1 ∉ b :: ns := fun hm => by have := HH.out.lt _ hm; omega
    have hn2 : w.heap.size + 1 + 1 ∉ b :: ns := fun hm => by have := HH.out.lt _ hm; omega
    clear hv hne hB hK q7 q8
    by_cases h200 : 200 ≤ c.wait.length
    · have h2 : (200 : Int) ≤ (c.wait.length : Int) := by omega
      have HP : Hid (park c t false ⟨k, m, s⟩ = (c, 5)) := Lib.hid (by unfold park; rw [HAny.out, if_neg (by simp), if_pos h200])
      gi_wp2
      have hK2 := (KeepsOthers.setCell W ⟨w.heap.size + 1 + 1, 0, none⟩ (.int .i64 5)).same D _ HKd.out rfl
      refine ⟨by simp, .inl ⟨_, _, rfl, run_takeDeferred hK2, ?_⟩⟩
      have hgp := grownBy_putObj' (W.setCell ⟨w.heap.size + 1 + 1, 0, none⟩ (.int .i64 5)) D (.deferred none)
      have hr0 := ((H8W.out.set (o := 0) (by simp) (.int .i64 5)).own (by simp) hgp (fun r e => by cases e; exact ⟨_, hK2, rfl⟩)).cell 0 (by simp)
      rw [upd_same] at hr0
      refine ⟨.int .i64 5, (by simp [results, Tryd.results18, go_sem, hr0]), ns, fun x hx => .inl hx, by rw [HP.out], ?_, ?_⟩
      · rw [HP.out]
        exact HRW.out.fr (L := [w.heap.size + 1 + 1, D]) (fr_putObj ((Fr.refl _ _).set (.inl (by simp)) _ _) (.inl (by simp)) _) (fun y hy => by have := HH.out.lt y hy; simp; omega)
      · exact fr_putObj ((HFW.out.widen (L' := b :: ns) (by simp)).set (.inr (by omega)) _ _) (.inr (by omega)) _
    · have h2 : ((c.wait.length : Nat) : Int) < 200 := by omega
      have HP : Hid (park c t false ⟨k, m, s⟩ = ({ c with wait := c.wait ++ [⟨t, false, ⟨0, 0, noS⟩⟩] }, 0)) := Lib.hid (by unfold park; rw [HAny.out, if_neg (by simp), if_neg h200]; rfl)
      gi_wp2
      have bF := ((H7.out.set (o := 0) (by simp) (.int .i64 0)).set (o := 1) (by simp) (.int .i64 0)).set (o := 2) (by simp) (.string noS)
      have HSF : Hid ((((W.setCell ⟨w.heap.size + 1, 0, none⟩ (.int .i64 0)).setCell ⟨w.heap.size + 1, 1, none⟩ (.int .i64 0)).setCell ⟨w.heap.size + 1, 2, none⟩ (.string noS)).cell? ⟨w.heap.size, 0, none⟩ = some (.int .i64 t) ∧ (((W.setCell ⟨w.heap.size + 1, 0, none⟩ (.int .i64 0)).setCell ⟨w.heap.size + 1, 1, none⟩ (.int .i64 0)).setCell ⟨w.heap.size + 1, 2, none⟩ (.string noS)).cell? ⟨w.heap.size + 1, 0, none⟩ = some (.int .i64 0) ∧ (((W.setCell ⟨w.heap.size + 1, 0, none⟩ (.int .i64 0)).setCell ⟨w.heap.size + 1, 1, none⟩ (.int .i64 0)).setCell ⟨w.heap.size + 1, 2, none⟩ (.string noS)).cell? ⟨w.heap.size + 1, 1, none⟩ = some (.int .i64 0) ∧ (((W.setCell ⟨w.heap.size + 1, 0, none⟩ (.int .i64 0)).setCell ⟨w.heap.size + 1, 1, none⟩ (.int .i64 0)).setCell ⟨w.heap.size + 1, 2, none⟩ (.string noS)).cell? ⟨w.heap.size + 1, 2, none⟩ = some (.string noS)) :=
        Lib.hid ⟨set_other (set_other (set_other t0 (by omega)) (by omega)) (by omega), bF.cell 0 (by simp), bF.cell 1 (by simp), bF.cell 2 (by simp)⟩
      clear bF
      have tF : (((W.setCell ⟨w.heap.size + 1, 0, none⟩ (.int .i64 0)).setCell ⟨w.heap.size + 1, 1, none⟩ (.int .i64 0)).setCell ⟨w.heap.size + 1, 2, none⟩ (.string noS)).drew.cell? ⟨w.heap.size, 0, none⟩ = some (.int .i64 t) ∧ (((W.setCell ⟨w.heap.size + 1, 0, none⟩ (.int .i64 0)).setCell ⟨w.heap.size + 1, 1, none⟩ (.int .i64 0)).setCell ⟨w.heap.size + 1, 2, none⟩ (.string noS)).drew.cell? ⟨w.heap.size + 1, 0, none⟩ = some (.int .i64 0) ∧ (((W.setCell ⟨w.heap.size + 1, 0, none⟩ (.int .i64 0)).setCell ⟨w.heap.size + 1, 1, none⟩ (.int .i64 0)).setCell ⟨w.heap.size + 1, 2, none⟩ (.string noS)).drew.cell? ⟨w.heap.size + 1, 1, none⟩ = some (.int .i64 0) ∧ (((W.setCell ⟨w.heap.size + 1, 0, none⟩ (.int .i64 0)).setCell ⟨w.heap.size + 1, 1, none⟩ (.int .i64 0)).setCell ⟨w.heap.size + 1, 2, none⟩ (.string noS)).drew.cell? ⟨w.heap.size + 1, 2, none⟩ = some (.string noS) := HSF.out
      refine wpIn_wide.2 ?_
      go_region_held3 (fun w' => w'.cell? ⟨w.heap.size, 0, none⟩ = some (.int .i64 t) ∧ w'.cell? ⟨w.heap.size + 1, 0, none⟩ = some (.int .i64 0) ∧ w'.cell? ⟨w.heap.size + 1, 1, none⟩ = some (.int .i64 0) ∧ w'.cell? ⟨w.heap.size + 1, 2, none⟩ = some (.string noS)) (first | go_keep | exact ⟨frc hF5 (by first | exact t0 | exact HSF.out.1) hn0 (by first | omega | (simp; omega)), frc hF5 (by first | exact v0 | exact HSF.out.2.1) hn1 (by first | omega | (simp; omega)), frc hF5 (by first | exact v1 | exact HSF.out.2.2.1) hn1 (by first | omega | (simp; omega)), frc hF5 (by first | exact v2 | exact HSF.out.2.2.2) hn1 (by first | omega | (simp; omega))⟩) ((go_at_call 45; refine (add_any b ns c t false 0 0 noS _ (HH.out.fr ((((HFW.out.set (b := w.heap.size + 1) (.inr (by omega)) 0 (.int .i64 0)).set (b := w.heap.size + 1) (.inr (by omega)) 1 (.int .i64 0)).set (b := w.heap.size + 1) (.inr (by omega)) 2 (.string noS)).drewN _) (by simp))).mono ?_; rintro e w5 ⟨m5, hm5, rfl, hR5, hF5⟩))
      all_goals have hDl := (Array.getElem?_eq_some_iff.1 HKd.out).1
      all_goals have hD5 : w5.heap[D]? = some (.deferred (some [])) := (hF5.block D (by first | (simp; omega) | (simp [World.setCell]; omega)) (fun hm => by have := HH.out.lt _ hm; omega)).trans (by exact (((KeepsOthers.setCell W ⟨w.heap.size + 1, 0, none⟩ (.int .i64 0)).trans (KeepsOthers.setCell _ ⟨w.heap.size + 1, 1, none⟩ (.int .i64 0))).trans (KeepsOthers.setCell _ ⟨w.heap.size + 1, 2, none⟩ (.string noS))).same D _ HKd.out rfl)
      all_goals have q8 := ((((H8W.out.set_other (b' := w.heap.size + 1) (by omega) _).set_other (b' := w.heap.size + 1) (by omega) _).set_other (b' := w.heap.size + 1) (by omega) _).drewN _).fr hF5 hn2
      all_goals have r85 : w5.cell? ⟨w.heap.size + 1 + 1, 0, none⟩ = some (.int .i64 0) := q8.cell 0 (by simp)
      all_goals have z85 := q8.fz 0
      all_goals have H85 := Lib.hid q8
      all_goals have HR5 := Lib.hid hR5
      all_goals have HF5 : Hid (Fr (b :: ns) w w5) := Lib.hid (((((((HFW.out.set (b := w.heap.size + 1) (.inr (by omega)) 0 (.int .i64 0)).set (b := w.heap.size + 1) (.inr (by omega)) 1 (.int .i64 0)).set (b := w.heap.size + 1) (.inr (by omega)) 2 (.string noS))).widen (L' := b :: ns) (by simp)).drewN _).thenL hF5 (fun x hx => .inl hx))
      all_goals have hzz := HF5.out.size
      all_goals clear hF5 hR5 q8
      all_goals gi_wp2
      all_goals have hK2 := (KeepsOthers.setCell w5 ⟨w.heap.size + 1 + 1, 0, none⟩ (.int .i64 0)).same D _ hD5 rfl
      all_goals refine ⟨by simp, .inl ⟨_, _, rfl, run_takeDeferred hK2, ?_⟩⟩
      all_goals have hgp := grownBy_putObj' (w5.setCell ⟨w.heap.size + 1 + 1, 0, none⟩ (.int .i64 0)) D (.deferred none)
      all_goals have hr0 := ((H85.out.set (o := 0) (by simp) (.int .i64 0)).own (by simp) hgp (fun r e => by cases e; exact ⟨_, hK2, rfl⟩)).cell 0 (by simp)
      all_goals rw [upd_same] at hr0
      all_goals refine ⟨.int .i64 0, (by simp [results, Tryd.results18, go_sem, hr0]), ns ++ [m5], ?_, by rw [HP.out], ?_, ?_⟩
      · intro x hx
        rcases List.mem_append.1 hx with hx | hx
        · exact .inl hx
        · simp at hx; subst hx; exact .inr (by first | (simp at hm5; omega) | (simp [World.setCell] at hm5; omega))
      · rw [HP.out]
        refine HR5.out.fr (L := [w.heap.size + 1 + 1, D]) (fr_putObj ((Fr.refl _ _).set (.inl (by simp)) _ _) (.inl (by simp)) _) (fun y hy => ?_)
        have hlt5 : W.heap.size ≤ m5 := by first | (simpa using hm5) | (simpa [World.setCell] using hm5)
        rcases List.mem_cons.1 hy with rfl | hy
        · simp; omega
        · rcases List.mem_append.1 hy with hy | hy
          · have := HH.out.lt y (List.mem_cons_of_mem _ hy); simp; omega
          · simp at hy; subst hy; simp; omega
      · exact fr_putObj (HF5.out.set (.inr (by omega)) _ _) (.inr (by omega)) _
  case stop =>
    rintro D cx pre W hD hpre ⟨rfl, ⟨x, hxm, hxt⟩, hb8, hB⟩ hK
    have hDw : w.heap.size + 1 + 1 < D := by simp at hD; omega
    have HP : Hid (park c t false ⟨k, m, s⟩ = (c, 21)) := Lib.hid (by
      unfold park
      rw [if_pos]
      rw [List.any_eq_true]
      exact ⟨x, hpre.subset hxm, by simpa using hxt⟩)
    gi_wp2
    refine ⟨by simp, .inl ⟨_, _, rfl, run_takeDeferred hK, ?_⟩⟩
    have hgp := grownBy_putObj' W D (.deferred none)
    have hr0 := (hb8.own (by omega) hgp (fun r e => by cases e; exact ⟨_, hK, rfl⟩)).cell 0 (by omega)
    refine ⟨.int .i64 21, (by simp [results, Tryd.results18, go_sem, hr0]), ns, fun x hx => .inl hx, by rw [HP.out], ?_, ?_⟩
    · rw [HP.out]
      exact (HH.out.below hB).fr (L := [D]) (fr_putObj (Fr.refl _ _) (.inl (by simp)) _) (fun y hy => by have := HH.out.lt y hy; simp; omega)
    · exact fr_putObj (Fr.of_below hB) (.inr (by omega)) _

end Go.Proofs.YtlibkhndekgnfaaDoor
