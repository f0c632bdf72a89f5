/- What Copy does. -/
import Derived.Test.YtajccigefoddiaaCp
namespace Go.Proofs.Ytajccigefoddiaa
set_option linter.unusedVariables false
set_option linter.unusedSimpArgs false
open Go.RowKit Go.Shelf
def copyCut (w : World) (rm n top cb : Nat) (bot : Int) (cc : Nat) (xs : List Value) (v : Value) (wx : World) : Prop :=
  ∃ b2 g c, v = ptr b2 ∧ Blk wx b2 [.slice (some ⟨cb, 0, none⟩) rm cc, natV top, .int .i64 bot, .slice (some ⟨g, 0, none⟩) n c] ∧ Blk wx g xs ∧ n ≤ c ∧ c ≤ maxLen ∧ w.heap.size ≤ g ∧ w.heap.size ≤ b2 ∧ g ≠ b2 ∧ Below w.heap.size w wx
theorem one_cells {W : World} {own : Own} {rb cb ab : Nat} {vs : List Av} {cap : Nat} {t : St.T} (h : Rep W own rb cb ab vs cap t) : ∀ u ∈ vs.flatMap acC, u.oneCell' = true := by
  intro u hu
  obtain ⟨v, hv, hm⟩ := List.mem_flatMap.1 hu
  obtain ⟨i, hi⟩ := List.getElem?_of_mem hv
  have hl := (List.getElem?_eq_some_iff.1 hi).1
  obtain ⟨a, ha⟩ : ∃ a, t.acts[i]? = some a := ⟨_, List.getElem?_eq_getElem (by have := h.len; omega)⟩
  have h1 := h.todo i v a hi ha
  have h2 := h.next i v a hi ha
  have h3 := h.got i v a hi ha
  simp only [acC, List.mem_cons, List.not_mem_nil, or_false] at hm
  rcases hm with rfl | rfl | rfl
  · obtain ⟨p, cap, e, _⟩ := h1; rw [e]; rfl
  · cases hn : a.next with
    | none => rw [hn] at h2; rw [h2]; rfl
    | some p =>
      rw [hn] at h2
      cases p with
      | last t x => obtain ⟨a, b, e, _⟩ := h2; rw [e]; rfl
      | bound t => obtain ⟨a, e, _⟩ := h2; rw [e]; rfl
      | reach t => obtain ⟨a, e, _⟩ := h2; rw [e]; rfl
      | claim t x => obtain ⟨a, b, e, _⟩ := h2; rw [e]; rfl
      | _ => rw [h2]; rfl
  · obtain ⟨p, cap, e⟩ := slice_form h3; rw [e]; rfl
/-- At the start of the loop. -/
theorem cp_start {w W : World} {own : Own} {rb cb ab : Nat} {vs : List Av} {cap : Nat} {t : St.T} (h : Rep w own rb cb ab vs cap t) {b2 g5 g c : Nat} {cc : Nat}
    (hB : Blk W b2 [.slice (some ⟨g5, 0, none⟩) t.d.cells.length cc, natV t.d.top, .int .i64 t.d.bottom, .slice (some ⟨g, 0, none⟩) t.acts.length c])
    (hG : Blk W g (vs.flatMap acC)) (h5 : Blk W g5 (ints t.d.cells)) (n1 : w.heap.size ≤ b2) (n2 : w.heap.size ≤ g5) (n3 : w.heap.size ≤ g) (d1 : b2 ≠ g5) (d2 : b2 ≠ g) (d3 : g5 ≠ g) (hb : Below w.heap.size w W) :
    ∃ own2, Cp w own vs t W own2 b2 g5 g vs c 0 := by
  refine ⟨put (put (put (fun k => if k < w.heap.size then (own k).map fun _ => .other else none) (some b2) .race) (some g5) .cells) (some g) .acts, ?_⟩
  have l1 := hB.lt
  have l2 := hG.lt
  have l3 := h5.lt
  refine ⟨fun k r e => ?_, fun k hk => ?_, ?_, ?_, ?_, ⟨n1, n2, n3⟩, ⟨hB.recap, h5, d1, h.dq.n0, h.dq.n16, h.dq.top, h.dq.bot, h.dq.bot2⟩, hG, rfl, fun i v2 e => ⟨v2, e, rfl, rfl, fun _ => rfl⟩, fun i v2 a hi => by omega, fun i v2 kk hi => by omega, hb⟩
  · by_cases a1 : g = k
    · omega
    by_cases a2 : g5 = k
    · omega
    by_cases a3 : b2 = k
    · omega
    by_cases a4 : k < w.heap.size
    · have := hb.size; omega
    · simp [put, a1, a2, a3, a4] at e
  · have k1 : b2 ≠ k := by omega
    have k2 : g5 ≠ k := by omega
    have k3 : g ≠ k := by omega
    simp [put, k1, k2, k3, hk]
  · have : g ≠ b2 := fun e => d2 e.symm
    have : g5 ≠ b2 := fun e => d1 e.symm
    simp [put, *]
  · have : g ≠ g5 := fun e => d3 e.symm
    simp [put, *]
  · simp [put]
theorem frS0 {w1 W : World} {b : Nat} (h : Fr (fun k => k = b) w1 W) (o : Nat) (v : Value) : Fr (fun k => k = b) w1 (W.setCell ⟨b, o, none⟩ v) := h.trans (frA W b o v)
def CpX (w : World) (own : Own) (vs : List Av) (t : St.T) (b2 g5 g c : Nat) (W : World) (k : Nat) : Prop := ∃ own2 vs2, Cp w own vs t W own2 b2 g5 g vs2 c k
section
variable {w W W' : World} {own : Own} {rb cb ab cap : Nat} {vs : List Av} {t : St.T} {b2 g5 g c k : Nat}
theorem CpX.below (h : CpX w own vs t b2 g5 g c W k) (hb : Below W.heap.size W W') : CpX w own vs t b2 g5 g c W' k := by
  obtain ⟨o, v, h⟩ := h; exact ⟨o, v, h.below hb⟩
theorem CpX.one (h : CpX w own vs t b2 g5 g c W k) {W1 : World} {v : Value} {a : St.Ac} (ha : t.acts[k]? = some a) (hl : vs.length = t.acts.length) (hown : W1.ownsRow W.heap.size 3 1 v a.got.length (ints a.got)) (hb : Below W.heap.size W W1) : CpX w own vs t b2 g5 g c (W1.setCell ⟨g, k * 3 + 2, none⟩ v) (k + 1) := by
  obtain ⟨o, v2, h⟩ := h
  obtain ⟨o3, v3, h3⟩ := h.one ha hl hown hb
  exact ⟨o3, v3, h3⟩
theorem CpX.facts (h : CpX w own vs t b2 g5 g c W k) (hl : vs.length = t.acts.length) (hk : k < t.acts.length) : W.cell? ⟨b2, 3, none⟩ = some (.slice (some ⟨g, 0, none⟩) t.acts.length c) ∧ (∃ x, W.cell? ⟨g, k * 3 + 2, none⟩ = some x) ∧ W.frozen? ⟨g, k * 3 + 2, none⟩ = false ∧ b2 < W.heap.size ∧ g < W.heap.size ∧ w.heap.size ≤ g ∧ Below w.heap.size w W := by
  obtain ⟨o, v2, h⟩ := h
  refine ⟨h.dq.blk.cell 3 _ rfl, ?_, h.blk.fz _, h.dq.blk.lt, h.blk.lt, h.nr.2.2, h.bel⟩
  have hk2 : k * 3 + 2 < (v2.flatMap acC).length := by rw [flat_len3]; have := h.len; omega
  exact ⟨_, h.blk.cell (k * 3 + 2) _ (List.getElem?_eq_getElem hk2)⟩
end
set_option maxRecDepth 100000 in
set_option maxHeartbeats 8000000 in
theorem copy_core (w : World) (own : Own) (vs : List Av) (t : St.T) (rb cb ab rm n cap cc top : Nat) (bot : Int) (xs cs : List Value) (h9 : n ≤ 9) (h16 : rm ≤ 16)
    (R0 : Hid (Blk w rb [.slice (some ⟨cb, 0, none⟩) rm cc, natV top, .int .i64 bot, .slice (some ⟨ab, 0, none⟩) n cap]))
    (A0 : Hid (Blk w ab xs))
    (CL : Hid (∀ W, Below w.heap.size w W → Calls Try.prog 48 #[.slice (some ⟨ab, 0, none⟩) n cap] W fun e w' => ∃ g c, e = .returned (.slice (some ⟨g, 0, none⟩) n c) ∧ n ≤ c ∧ c ≤ maxLen ∧ W.heap.size ≤ g ∧ Blk w' g xs ∧ Below W.heap.size W w'))
    (CD : Hid (∀ W, Below w.heap.size w W → Calls Try.prog 38 #[.slice (some ⟨cb, 0, none⟩) rm cc] W fun e w' => ∃ g5 c5, e = .returned (.slice (some ⟨g5, 0, none⟩) rm c5) ∧ Blk w' g5 cs ∧ W.heap.size ≤ g5 ∧ Below W.heap.size W w'))
    (ST : Hid (∀ W b2 g5 g c c5, Blk W b2 [.slice (some ⟨g5, 0, none⟩) rm c5, natV top, .int .i64 bot, .slice (some ⟨g, 0, none⟩) n c] → Blk W g xs → Blk W g5 cs → w.heap.size ≤ b2 → w.heap.size ≤ g5 → w.heap.size ≤ g → b2 ≠ g5 → b2 ≠ g → g5 ≠ g → Below w.heap.size w W → CpX w own vs t b2 g5 g c W 0))
    (FA : Hid (∀ W b2 g5 g c k, CpX w own vs t b2 g5 g c W k → k < n → W.cell? ⟨b2, 3, none⟩ = some (.slice (some ⟨g, 0, none⟩) n c) ∧ (∃ x, W.cell? ⟨g, k * 3 + 2, none⟩ = some x) ∧ W.frozen? ⟨g, k * 3 + 2, none⟩ = false ∧ b2 < W.heap.size ∧ g < W.heap.size ∧ w.heap.size ≤ g ∧ Below w.heap.size w W))
    (RO : Hid (∀ k, k < n → ∃ pg ng cg, w.cell? ⟨ab, k * 3 + 2, none⟩ = some (.slice pg ng cg) ∧ ∀ W b2 g5 g c, CpX w own vs t b2 g5 g c W k → Calls Try.prog 38 #[.slice pg ng cg] W fun e w' => ∃ p' c', e = .returned (.slice p' ng c') ∧ Below W.heap.size W w' ∧ CpX w own vs t b2 g5 g c (w'.setCell ⟨g, k * 3 + 2, none⟩ (.slice p' ng c')) (k + 1))) :
    Calls Try.prog 19 #[ptr rb] w fun e w' => ∃ b2 g5 g c, e = .returned (ptr b2) ∧ CpX w own vs t b2 g5 g c w' n ∧ n ≤ c ∧ c ≤ maxLen := by
  have HB0 := Lib.hid (Below.refl w.heap.size w)
  have hlr := R0.out.lt
  have hla := A0.out.lt
  have KS : Hid (∀ W, Below w.heap.size w W → W.cell? ⟨rb, 0, none⟩ = some (.slice (some ⟨cb, 0, none⟩) rm cc) ∧ W.cell? ⟨rb, 1, none⟩ = some (natV top) ∧ W.cell? ⟨rb, 2, none⟩ = some (.int .i64 bot) ∧ W.cell? ⟨rb, 3, none⟩ = some (.slice (some ⟨ab, 0, none⟩) n cap)) := Lib.hid fun W hW => by
    have h := R0.out.below hW R0.out.lt
    exact ⟨h.cell 0 _ rfl, h.cell 1 _ rfl, h.cell 2 _ rfl, h.cell 3 _ rfl⟩
  go_enter Try.func19, Try.ntmps19
  go_upto_region 3 with fail
  go_cut [3] (fun v wx => copyCut w rm n top cb bot cc xs v wx)
  case first =>
    have x0 := R0.out.cell 0 _ rfl
    have x1 := R0.out.cell 1 _ rfl
    have x2 := R0.out.cell 2 _ rfl
    have x3 := R0.out.cell 3 _ rfl
    go_region_held3 (fun W' => W'.cell? ⟨rb, 0, none⟩ = some (.slice (some ⟨cb, 0, none⟩) rm cc) ∧ W'.cell? ⟨rb, 1, none⟩ = some (natV top) ∧ W'.cell? ⟨rb, 2, none⟩ = some (.int .i64 bot) ∧ W'.cell? ⟨rb, 3, none⟩ = some (.slice (some ⟨ab, 0, none⟩) n cap))
      (first | exact KS.out _ (by repeat (first | exact HB0.out | exact DB.out | (with_reducible refine bDr ?_) | (with_reducible refine bAl ?_ _))) | go_keep)
      ((go_at_call 48; refine (CL.out _ (by repeat (first | exact HB0.out | (with_reducible refine bDr ?_)))).mono ?_; rintro e w2 ⟨g, c, rfl, k1, k2, k3, k4, k5⟩; have DB := Lib.hid ((by repeat (first | exact HB0.out | (with_reducible refine bDr ?_)) : Below w.heap.size w _).trans (k5.mono (Nat.le_refl _))); have HG := Lib.hid k4; have HGL : Hid (w.heap.size ≤ g) := Lib.hid k3; clear k3 k4 k5))
    all_goals (go_wp2_with fail; go_meet)
    all_goals exact ⟨w2.heap.size, g, c, rfl, Blk.new _ _ _, HG.out.alloc _, k1, k2, HGL.out, DB.out.size, by have := HG.out.lt; omega, bAl DB.out _⟩
  case rest =>
    obtain ⟨b2, g, c, rfl, hB2, hG, k1, k2, n1, n2, d2, hb⟩ := hcut
    obtain ⟨x0, x1, x2, x3⟩ := KS.out _ hb
    have hlr := Nat.lt_of_lt_of_le hlr hb.size
    have C5 := Lib.hid (CD.out _ hb)
    have HB2 := Lib.hid hB2
    have HG := Lib.hid hG
    have HBX := Lib.hid hb
    clear hB2 hG hb CL CD KS
    go_wp2_with fail
    refine C5.out.mono ?_
    rintro e w5 ⟨g5, c5, rfl, hb5, n3, hbl⟩
    have hB5 := HB2.out.below hbl HB2.out.lt
    have y0 := hB5.cell 0 _ rfl
    have y1 := hB5.cell 1 _ rfl
    have y2 := hB5.cell 2 _ rfl
    have y3 := hB5.cell 3 _ rfl
    have z0 := hB5.fz 0
    have hl2 := hB5.lt
    have hgb : g5 ≠ b2 := fun e => by have := HB2.out.lt; omega
    have hgg : g5 ≠ g := fun e => by have := HG.out.lt; omega
    have x3 := cell_of hbl x3
    have hlr := Nat.lt_of_lt_of_le hlr hbl.size
    have HS : Hid (CpX w own vs t b2 g5 g c (w5.setCell ⟨b2, 0, none⟩ (.slice (some ⟨g5, 0, none⟩) rm c5)) 0) := Lib.hid (ST.out _ b2 g5 g c c5 (hB5.set (o := 0) (by simp) _) ((HG.out.below hbl HG.out.lt).set_other d2 _) (hb5.set_other hgb _) n2 (Nat.le_trans HBX.out.size n3) n1 (fun e => hgb e.symm) (fun e => d2 e.symm) hgg (bSt (HBX.out.trans (hbl.mono HBX.out.size)) (by omega) _ _))
    have DD : Hid (n ≤ c ∧ c ≤ maxLen) := Lib.hid ⟨k1, k2⟩
    clear hB5 hb5 hbl C5 ST x0 x1 x2 k2
    go_wp2_with fail
    go_loopw [33] (fun i wr => ∃ (k : Nat), k ≤ n ∧ i = .int .i64 (k : Int) ∧ Hid (CpX w own vs t b2 g5 g c wr k)) (fun i _ => n - (intOf i).toNat)
    case atStart => exact ⟨0, by omega, rfl, HS⟩
    case round =>
      obtain ⟨k, hk, rfl, HC⟩ := hrel
      clear HS y0 y1 y2 y3 z0 x3
      by_cases hlt : k < n
      · obtain ⟨f1, ⟨xo, f2⟩, f3, f4, f5, f6, f7⟩ := FA.out _ _ _ _ _ _ HC.out hlt
        obtain ⟨pg, ng, cg, r1, r2⟩ := RO.out k hlt
        have R2 := Lib.hid r2
        have q3 : wr.cell? ⟨rb, 3, none⟩ = some (.slice (some ⟨ab, 0, none⟩) n cap) := (R0.out.below f7 R0.out.lt).cell 3 _ rfl
        have q4 := cell_of f7 r1
        have hrr : rb < wr.heap.size := Nat.lt_of_lt_of_le R0.out.lt f7.size
        have haa : ab < wr.heap.size := Nat.lt_of_lt_of_le A0.out.lt f7.size
        have j0 : (0 : Int) ≤ (k : Int) := by omega
        have j1 : (k : Int) < (n : Int) := by omega
        have W0 := Lib.hid (Below.refl wr.heap.size wr)
        have KK : Hid (∀ W, Below wr.heap.size wr W → W.cell? ⟨b2, 3, none⟩ = some (.slice (some ⟨g, 0, none⟩) n c) ∧ W.cell? ⟨rb, 3, none⟩ = some (.slice (some ⟨ab, 0, none⟩) n cap) ∧ W.cell? ⟨ab, k * 3 + 2, none⟩ = some (.slice pg ng cg) ∧ W.cell? ⟨g, k * 3 + 2, none⟩ = some xo ∧ W.frozen? ⟨g, k * 3 + 2, none⟩ = false) := Lib.hid fun W hW => ⟨cell_of hW f1, cell_of hW q3, cell_of hW q4, cell_of hW f2, (hW.frozen (p := ⟨g, k * 3 + 2, none⟩) f5).trans f3⟩
        have F0 : Hid (Fr (fun k => k = g) wr wr) := Lib.hid (Fr.refl _ _)
        have K3 : Hid (∀ W, Fr (fun k => k = g) wr W → W.cell? ⟨b2, 3, none⟩ = some (.slice (some ⟨g, 0, none⟩) n c) ∧ W.cell? ⟨rb, 3, none⟩ = some (.slice (some ⟨ab, 0, none⟩) n cap) ∧ W.cell? ⟨ab, k * 3 + 2, none⟩ = some (.slice pg ng cg)) := Lib.hid fun W hW => ⟨(hW.cell (p := ⟨b2, 3, none⟩) f4 (fun e => d2 e.symm)).trans f1, (hW.cell (p := ⟨rb, 3, none⟩) hrr (fun e => by have : rb = g := e; have := R0.out.lt; omega)).trans q3, (hW.cell (p := ⟨ab, k * 3 + 2, none⟩) haa (fun e => by have : ab = g := e; have := A0.out.lt; omega)).trans q4⟩
        clear r1 r2
        go_upto_region 8 with fail
        go_region_held3 (fun W' => W'.cell? ⟨b2, 3, none⟩ = some (.slice (some ⟨g, 0, none⟩) n c) ∧ W'.cell? ⟨rb, 3, none⟩ = some (.slice (some ⟨ab, 0, none⟩) n cap) ∧ W'.cell? ⟨ab, k * 3 + 2, none⟩ = some (.slice pg ng cg))
          (first | exact K3.out _ (by repeat (first | exact F0.out | exact FD.out | (with_reducible refine Fr.drew ?_) | (with_reducible refine frS0 ?_ _ _))) | go_keep)
          ((go_at_call 38; refine (R2.out _ _ _ _ _ (HC.out.below (by repeat (first | exact W0.out | (with_reducible refine bDr ?_))))).mono ?_; rintro e w2 ⟨p', c', rfl, k4, k5⟩; have DB : Hid (Below wr.heap.size wr w2) := Lib.hid ((by repeat (first | exact W0.out | (with_reducible refine bDr ?_)) : Below wr.heap.size wr _).trans (k4.mono (Nat.le_refl _))); have FD : Hid (Fr (fun k => k = g) wr w2) := Lib.hid (Fr.of_below DB.out); obtain ⟨t0, t1, t2, t3, t4⟩ := KK.out _ DB.out; have tl := Nat.lt_of_lt_of_le f5 DB.out.size; have HN := Lib.hid k5; clear k4 k5))
        all_goals (go_wp2_with fail)
        all_goals exact ⟨⟨k + 1, by omega, by go_num, HN⟩, by simp [intOf]; omega⟩
      · obtain rfl : k = n := by omega
        go_wp2_with fail
        go_ret
        exact ⟨b2, g5, g, c, rfl, HC.out, DD.out.1, DD.out.2⟩
/-- Copy. -/
theorem copy_any {w : World} {own : Own} {rb cb ab : Nat} {vs : List Av} {cap : Nat} {t : St.T} (h : Rep w own rb cb ab vs cap t) : Calls Try.prog 19 #[ptr rb] w fun e w' => ∃ b2 g5 g c own2 vs2, e = .returned (ptr b2) ∧ Rep w' own2 b2 g5 g vs2 c t ∧ (∀ k, k < w.heap.size → own2 k = (own k).map fun _ => .other) ∧ Below w.heap.size w w' := by
  have hc := one_cells h
  have hfl := flat_len3 vs
  rw [h.len] at hfl
  refine (copy_core w own vs t rb cb ab t.d.cells.length t.acts.length cap (capAt w rb) t.d.top t.d.bottom (vs.flatMap acC) (ints t.d.cells) h.n9 h.dq.n16 (Lib.hid h.dq.blk) (Lib.hid h.blk)
    (Lib.hid fun W hW => clone48 W ab t.acts.length cap (vs.flatMap acC) (h.blk.below hW h.blk.lt) hfl h.n0 h.n9 hc)
    (Lib.hid fun W hW => ?_)
    (Lib.hid fun W b2 g5 g c c5 q1 q2 q3 q4 q5 q6 q7 q8 q9 q10 => ?_)
    (Lib.hid fun W b2 g5 g c k hC hk => hC.facts h.len hk)
    (Lib.hid fun k hk => ?_)).mono ?_
  · have hcb := h.dq.cel.below hW h.dq.cel.lt
    have n0 := h.dq.n0
    have n16 := h.dq.n16
    refine (clone_at W (some ⟨cb, 0, none⟩) t.d.cells.length (capAt w rb) t.d.cells rfl (by omega) (fun _ => ⟨cb, 0, rfl, hcb.lt, fun j hj => ?_⟩)).mono ?_
    · rw [Nat.zero_add]; exact hcb.cell j _ (ints_get hj)
    · rintro e w' ⟨p, c, rfl, k1, k2, k3, k4⟩
      rcases k3.2 with ⟨_, h0⟩ | ⟨g5, c5, cur, hv, _⟩
      · omega
      · cases hv
        exact ⟨g5, c, rfl, blk_of_owns k3, (k3.lt g5 rfl).1, k4⟩
  · obtain ⟨o, hC⟩ := cp_start h q1 q2 q3 q4 q5 q6 q7 q8 q9 q10
    exact ⟨o, vs, hC⟩
  · obtain ⟨v, hv⟩ : ∃ v, vs[k]? = some v := ⟨_, List.getElem?_eq_getElem (by have := h.len; omega)⟩
    obtain ⟨a, ha⟩ : ∃ a, t.acts[k]? = some a := ⟨_, List.getElem?_eq_getElem hk⟩
    have hg := h.got k v a hv ha
    obtain ⟨p, cg, e⟩ := slice_form hg
    refine ⟨p, a.got.length, cg, ?_, fun W b2 g5 g c hC => ?_⟩
    · have := h.blk.cell (k * 3 + 2) v.got (flat_get3 2 hv (by omega))
      rw [e] at this
      exact this
    · have hbW := (hC.facts h.len hk).2.2.2.2.2.2
      rw [e] at hg
      have hgl := h.gl k a ha
      refine (clone_at W p a.got.length cg a.got rfl (by omega) ((nums_at hg).below hbW)).mono ?_
      rintro e' w' ⟨p', c', rfl, k1, k2, k3, k4⟩
      exact ⟨p', c', rfl, k4, hC.one ha h.len k3 k4⟩
  · rintro e w' ⟨b2, g5, g, c, rfl, ⟨o, v2, hC⟩, k1, k2⟩
    exact ⟨b2, g5, g, c, o, v2, rfl, hC.all h (Nat.le_refl _) k1 k2, hC.old, hC.bel⟩
end Go.Proofs.Ytajccigefoddiaa
