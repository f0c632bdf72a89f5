/- What NewRace does. -/
import Derived.Deep.RegionLaw
import Derived.Deep.DeepCutAuto
import Derived.Test.YtajccigefoddiaaMk
namespace Go.Proofs.Ytajccigefoddiaa
set_option linter.unusedVariables false
set_option linter.unusedSimpArgs false
open Go.RowKit Go.Shelf
def thiefAc (n : Int) : St.Ac := ⟨List.replicate n.toNat .theft, none, []⟩
def St.mkT (room : Int) (lo lt : List Int) : St.T := ⟨⟨List.replicate room.toNat 0, 0, 0⟩, ⟨lo.map opOf, none, []⟩ :: lt.map thiefAc⟩
def St.okPlan (room : Int) (lo lt : List Int) : Bool := decide (1 ≤ room) && decide (room ≤ 16) && decide (lo.length ≤ 60) && lo.all (inRange 1000000) && decide (lt.length ≤ 8) && lt.all (inRange 60)
def newPost (w : World) (room : Int) (lo lt : List Int) (e : Ending) (w' : World) : Prop :=
  if St.okPlan room lo lt then ∃ rb cb own ab cap, e = .returned (.tuple #[ptr rb, .int .i64 0]) ∧ Ow w own rb cb ab cap (St.mkT room lo lt) w'
  else e = .returned (.tuple #[.pointer none, .int .i64 2]) ∧ Below w.heap.size w w'
theorem ints_rep (n : Nat) : ints (List.replicate n 0) = List.replicate n (.int .i64 0) := by simp [ints]
theorem newAc_form {w w' : World} {l : List St.Op} {n : Nat} {e : Ending} (h : newAc w l e w') (hn : l.length = n) : ∃ tp tc, e = .returned (.agg #[.slice tp n tc, .nilFunc, .slice none 0 0]) ∧ w'.ownsRow w.heap.size 122 1 (.slice tp n tc) l.length (opsV l) ∧ Below w.heap.size w w' := by
  obtain ⟨tv, rfl, h1, h2⟩ := h
  obtain ⟨tp, tc, rfl⟩ := slice_form h1
  rw [hn] at h1 ⊢
  exact ⟨tp, tc, rfl, h1, h2⟩
theorem snoc_form {w wr w2 w5 : World} {rb cb room n : Nat} {v v' : Value} {vs : List Av} {acts : List St.Ac} {l : List St.Op} (h : MkR w wr rb cb room v vs acts) {tv : Value} (hT : w2.ownsRow wr.heap.size 122 1 tv l.length (opsV l)) (hb : Below wr.heap.size wr w2) {o : Obj} (hn : n = vs.length) {xs : List Value} (hxs : xs = vs.flatMap acC) (hrow : w5.ownsRow w.heap.size 91 3 v' (n + 1) (xs ++ [tv, .nilFunc, .slice none 0 0])) (hG : (w2.alloc o).grownBy w5 v.ownBlock)
    (hat : v'.ownBlock = v.ownBlock ∨ v'.ownBlock = some (w2.alloc o).heap.size) :
    ∃ g cp, v' = .slice (some ⟨g, 0, none⟩) (n + 1) cp ∧ Hid (MkR w (w5.setCell ⟨rb, 3, none⟩ v') rb cb room v' (vs ++ [⟨tv, .nilFunc, .slice none 0 0⟩]) (acts ++ [⟨l, none, []⟩])) ∧ w5.cell? ⟨rb, 3, none⟩ = some v ∧ w5.frozen? ⟨rb, 3, none⟩ = false ∧ rb < w5.heap.size := by
  subst hn hxs
  obtain ⟨g, cp, e⟩ := ownsRow_succ hrow
  have h2 := (h.below hb).rbk.alloc o
  have h5 := h2.grown hG (fun e => h.v1 e.symm)
  exact ⟨g, cp, e, Lib.hid (h.snoc hT hb hG hrow hat), h5.cell 3 _ rfl, h5.fz 3, h5.lt⟩
theorem mk_start {w w2 w3 : World} {R : Nat} (hb : Below w.heap.size w w2) (hrow : w3.ownsRow w.heap.size 3 1 (.slice (some ⟨w2.heap.size, 0, none⟩) R R) R (madeCells #[Value.int .i64 0] R).toList) (hG : w2.grownBy w3 none) :
    MkR w (w3.alloc (.cells #[.slice (some ⟨w2.heap.size, 0, none⟩) R R, .int .i64 0, .int .i64 0, .slice none 0 0] 96)) w3.heap.size w2.heap.size R (.slice none 0 0) [] [] := by
  obtain ⟨hl1, hl2⟩ : w.heap.size ≤ w2.heap.size ∧ w2.heap.size < w3.heap.size := (hrow.lt w2.heap.size rfl)
  have hb3 : Below w.heap.size w w3 := hb.grown hG hb.size (fun b e => by cases e)
  have hcb : Blk w3 w2.heap.size (ints (List.replicate R 0)) := by
    have e1 : (madeCells #[Value.int .i64 0] R).toList = ints (List.replicate R 0) := by rw [ints_rep]; exact toList_madeCells_one _ _
    rw [e1] at hrow
    refine ⟨hl2, fun o u ho => ?_, fun o => hrow.frozenAt o, ?_⟩
    · have := hrow.cells (g := w2.heap.size) rfl o u ho
      rw [add_off, Nat.zero_add] at this
      exact this
    · rcases hrow.2 with ⟨e, _⟩ | ⟨g, cap, cur, e, h1, h2, _⟩
      · cases e
      · cases e; exact ⟨_, _, h2⟩
  exact ⟨Blk.new w3 _ _, hcb.alloc _, by omega, by have := hb3.size; omega, hb.size, World.ownsRow_nil _ _ _ _, by simp [Value.ownBlock], by simp [Value.ownBlock], rfl, fun i x a e => by simp at e, bAl hb3 _⟩
set_option maxRecDepth 100000 in
set_option maxHeartbeats 4000000 in
theorem newRace_any (w : World) (room : Int) (p q : Option Addr) (cp cq : Nat) (lo lt : List Int) (hl : lo.length ≤ 1000) (hl2 : lt.length ≤ 1000) (hp : NumsAt w p lo) (hq : NumsAt w q lt) :
    Calls Try.prog 37 #[.int .i64 room, .slice p lo.length cp, .slice q lt.length cq] w (newPost w room lo lt) := by
  have W1 : Hid (∀ W, Below w.heap.size w W → Calls Try.prog 63 #[.slice p lo.length cp, .int .i64 1000000] W (fun e w' => e = .returned (.bool (lo.all (inRange 1000000))) ∧ Below w.heap.size w w')) := Lib.hid fun W hW => (within_any W p cp lo (by omega) (hp.below hW) 1000000).mono fun e w' ⟨h1, h2⟩ => ⟨h1, hW.trans (h2.mono hW.size)⟩
  have W2 : Hid (∀ W, Below w.heap.size w W → Calls Try.prog 63 #[.slice q lt.length cq, .int .i64 60] W (fun e w' => e = .returned (.bool (lt.all (inRange 60))) ∧ Below w.heap.size w w')) := Lib.hid fun W hW => (within_any W q cq lt (by omega) (hq.below hW) 60).mono fun e w' ⟨h1, h2⟩ => ⟨h1, hW.trans (h2.mono hW.size)⟩
  have HP := Lib.hid hp
  have HQ := Lib.hid hq
  obtain ⟨n, hn⟩ : ∃ n, n = lo.length := ⟨_, rfl⟩
  obtain ⟨m, hm⟩ : ∃ m, m = lt.length := ⟨_, rfl⟩
  have HN := Lib.hid hn
  have HM := Lib.hid hm
  rw [← hn] at hl W1 ⊢
  rw [← hm] at hl2 W2 ⊢
  have hbad : St.okPlan room lo lt = false → newPost w room lo lt = fun e w' => e = .returned (.tuple #[.pointer none, .int .i64 2]) ∧ Below w.heap.size w w' := fun h => by unfold newPost; rw [h]; rfl
  clear hp hq hn hm
  by_cases h1 : room < 1
  · rw [hbad (by unfold St.okPlan; simp; omega)]
    clear hbad W1 W2
    go_enter Try.func37, Try.ntmps37
    go_wp2
    go_ret2
    exact ⟨rfl, Below.refl _ _⟩
  by_cases h2 : 16 < room
  · rw [hbad (by unfold St.okPlan; simp; omega)]
    clear hbad W1 W2
    go_enter Try.func37, Try.ntmps37
    go_wp2
    go_ret2
    exact ⟨rfl, Below.refl _ _⟩
  have d1 : decide (room < 1) = false := by simpa using h1
  have d2 : decide (room > 16) = false := by simpa using h2
  have d2' : decide (16 < room) = false := by simpa using h2
  by_cases h3 : 60 < n
  · rw [hbad (by unfold St.okPlan; rw [← HN.out]; simp; omega)]
    have d3 : (60 : Int) < (n : Int) := by omega
    clear hbad W1 W2 h1 h2
    go_enter Try.func37, Try.ntmps37
    go_wp2
    go_ret2
    exact ⟨rfl, Below.refl _ _⟩
  have d3 : decide ((n : Int) > 60) = false := by simp; omega
  have d3' : decide (60 < (n : Int)) = false := by simp; omega
  have W1w := Lib.hid (W1.out w (Below.refl _ _))
  cases h4 : lo.all (inRange 1000000) with
  | false =>
    rw [hbad (by unfold St.okPlan; rw [h4]; simp)]
    rw [h4] at W1w
    clear hbad W1 W2 h1 h2 h4
    go_enter Try.func37, Try.ntmps37
    go_wp2_with fail
    refine W1w.out.mono ?_
    rintro e w1 ⟨rfl, hb⟩
    have HB := Lib.hid hb
    clear hb
    go_wp2
    go_ret2
    exact ⟨rfl, HB.out⟩
  | true =>
  rw [h4] at W1w
  by_cases h5 : 8 < m
  · rw [hbad (by unfold St.okPlan; rw [← HM.out]; simp; omega)]
    have d4 : (8 : Int) < (m : Int) := by omega
    clear hbad W1 W2 h1 h2 h4
    go_enter Try.func37, Try.ntmps37
    go_wp2_with fail
    refine W1w.out.mono ?_
    rintro e w1 ⟨rfl, hb⟩
    have HB := Lib.hid hb
    clear hb
    go_wp2
    go_ret2
    exact ⟨rfl, HB.out⟩
  have d4 : decide ((m : Int) > 8) = false := by simp; omega
  have d4' : decide (8 < (m : Int)) = false := by simp; omega
  cases h6 : lt.all (inRange 60) with
  | false =>
    rw [hbad (by unfold St.okPlan; rw [h6]; simp)]
    rw [h6] at W2
    clear hbad W1 h1 h2 h4 h6
    go_enter Try.func37, Try.ntmps37
    go_wp2_with fail
    refine W1w.out.mono ?_
    rintro e w1 ⟨rfl, hb⟩
    have W2w := Lib.hid (W2.out _ hb)
    clear hb W1w
    go_wp2_with fail
    refine W2w.out.mono ?_
    rintro e w1 ⟨rfl, hb⟩
    have HB := Lib.hid hb
    clear hb
    go_wp2
    go_ret2
    exact ⟨rfl, HB.out⟩
  | true =>
  rw [h6] at W2
  have hgood : newPost w room lo lt = fun e w' => ∃ rb cb own ab cap, e = .returned (.tuple #[ptr rb, .int .i64 0]) ∧ Ow w own rb cb ab cap (St.mkT room lo lt) w' := by
    funext e w'
    unfold newPost
    rw [if_pos (by unfold St.okPlan; rw [h4, h6, ← HN.out, ← HM.out]; simp; omega)]
  rw [hgood]
  obtain ⟨R, rfl⟩ : ∃ R : Nat, room = (R : Int) := ⟨room.toNat, by omega⟩
  have HT6 := Lib.hid h6
  clear hbad hgood h4 h6 W1
  obtain ⟨i3, hi, hz0, hz1, hz2⟩ := info_parts info3
  have HI := Lib.hid hi; have HZ0 := Lib.hid hz0; have HZ1 := Lib.hid hz1; have HZ2 := Lib.hid hz2
  clear hi hz0 hz1 hz2
  obtain ⟨i9, hi, hz0, hz1, hz2⟩ := info_parts info91
  have GI := Lib.hid hi; have GZ0 := Lib.hid hz0; have GZ1 := Lib.hid hz1; have GZ2 := Lib.hid hz2
  clear hi hz0 hz1 hz2
  have hml : (2000000 : Nat) ≤ maxLen := by decide
  go_enter Try.func37, Try.ntmps37
  go_wp2_with fail
  refine W1w.out.mono ?_
  rintro e w1 ⟨rfl, hb⟩
  have W2w := Lib.hid (W2.out _ hb)
  clear hb W1w
  go_wp2_with fail
  refine W2w.out.mono ?_
  rintro e w2 ⟨rfl, hb⟩
  have HB2 := Lib.hid hb
  clear hb W2w
  go_wp2_with (refine wpList_make_full _ (by rfl) (.tmp 34) (.tmp 34) 22 (by rfl) w.heap.size 3 i3 (.int .i64 0) 1 Try.underlying22 HI.out HZ0.out HZ1.out .i64 .i64 (R : Int) (R : Int) R (by rfl) (by rfl) (by rfl) (by rfl) (by rw [HZ2.out]; omega) (by omega) HB2.out.size ?_)
  intro w3 hrow3 hG3
  obtain ⟨cb, hcb⟩ : ∃ cb, cb = w2.heap.size := ⟨_, rfl⟩
  obtain ⟨rb, hrb⟩ : ∃ rb, rb = w3.heap.size := ⟨_, rfl⟩
  have HMK : Hid (MkR w (w3.alloc (.cells #[.slice (some ⟨cb, 0, none⟩) R R, .int .i64 0, .int .i64 0, .slice none 0 0] 96)) rb cb R (.slice none 0 0) [] []) := Lib.hid (by
    subst hcb hrb
    exact mk_start HB2.out hrow3 hG3)
  have HRB : Hid (rb = w3.heap.size) := Lib.hid hrb
  rw [← hcb]
  clear hrow3 hG3 hcb hrb
  go_upto_region 6 with fail
  rw [← HRB.out]
  generalize w3.alloc (.cells #[.slice (some ⟨cb, 0, none⟩) R R, .int .i64 0, .int .i64 0, .slice none 0 0] 96) = w4 at *
  go_cut [] (fun wx => ∃ v vs, MkR w wx rb cb R v vs [⟨lo.map opOf, none, []⟩])
  case first =>
    have B0 : Hid (Below w4.heap.size w4 w4.drew) := Lib.hid (below_drewN (Below.refl _ _) 1)
    have OC : Hid (Calls Try.prog 64 #[.slice p n cp] w4.drew fun e w' => ∃ tp tc, e = .returned (.agg #[.slice tp n tc, .nilFunc, .slice none 0 0]) ∧ w'.ownsRow w4.drew.heap.size 122 1 (.slice tp n tc) (lo.map opOf).length (opsV (lo.map opOf)) ∧ Below w4.drew.heap.size w4.drew w') := Lib.hid (by
      rw [HN.out]
      exact (newOwner_any w4.drew p cp lo (by rw [← HN.out]; exact hl) ((HP.out.below HMK.out.bel).below B0.out)).mono fun e w' h => newAc_form h (by simp))
    have c3 := HMK.out.rbk.cell 3 _ rfl
    have hlr := HMK.out.rbk.lt
    clear W2 HRB
    go_region_law (first
      | (refine wp_append_at _ _ _ 94 (by rfl) w.heap.size 91 i9 (.agg #[.slice none 0 0, .nilFunc, .slice none 0 0]) 3 56 Try.underlying94 GI.out GZ0.out GZ1.out GZ2.out (by rfl) (by decide) (.slice none 0 0) 0 [] (by rfl) (World.ownsRow_nil _ _ _ _) ⟨w5.heap.size, 0, none⟩ 1 1 [.slice tp n tc, .nilFunc, .slice none 0 0] (by rfl) (by rfl) (by exact cells_new3 _ _ _ _ _) (by simp [Value.oneCell']) (by omega) (by omega) (by have := HB5.out.size; have := HMK.out.bel.size; simp; omega) ?_; intro v6 w6 hown6 hG6 hat6; obtain ⟨g6, cp6, rfl, HM6, q1, q2, q3⟩ := snoc_form HMK.out HT5.out HB5.out rfl rfl hown6 hG6 hat6; clear hown6 hG6 hat6)
      | (go_simp; go_at_call 64; refine OC.out.mono ?_; rintro e w5 ⟨tp, tc, rfl, hT, hb⟩; have HT5 := Lib.hid hT; have HB5 := Lib.hid (B0.out.trans (hb.mono B0.out.size)); have x5 := cell_of HB5.out c3; have l5 := Nat.lt_of_lt_of_le hlr HB5.out.size; clear hT hb))
    all_goals (go_wp2_with fail; go_meet)
    all_goals exact ⟨_, _, HM6.out⟩
  case rest =>
    obtain ⟨v0, vs0, hM0⟩ := hcut
    have HM0 := Lib.hid hM0
    clear hM0 HMK HRB W2
    go_wp2_with fail
    go_loopw [52] (fun i wr => ∃ (k : Nat) (v : Value) (vs : List Av), k ≤ m ∧ i = .int .i64 (k : Int) ∧ Hid (MkR w wr rb cb R v vs ((⟨lo.map opOf, none, []⟩ : St.Ac) :: (lt.take k).map thiefAc))) (fun i _ => m - (intOf i).toNat)
    case atStart => exact ⟨0, v0, vs0, Nat.zero_le _, rfl, HM0⟩
    case round =>
      obtain ⟨k, v, vs, hk, rfl, HMK⟩ := hrel
      clear HM0
      by_cases hlt : k < m
      · obtain ⟨a, ha⟩ : ∃ a, lt[k]? = some a := ⟨_, List.getElem?_eq_getElem (by have := HM.out; omega)⟩
        have hra : inRange 60 a = true := List.all_eq_true.1 HT6.out a (List.mem_of_getElem? ha)
        obtain ⟨c, rfl⟩ : ∃ c : Nat, a = (c : Int) := ⟨a.toNat, by unfold inRange at hra; simp at hra; omega⟩
        have hc60 : c ≤ 60 := by unfold inRange at hra; simp at hra; omega
        obtain ⟨g, off, rfl, hg, hcc⟩ := HQ.out (by have := HM.out; omega)
        have c0 := hcc k (by have := HM.out; omega)
        rw [List.getD_eq_getElem?_getD, ha] at c0
        simp only [Option.getD_some] at c0
        have c1 := cell_of HMK.out.bel c0
        have hgr := Nat.lt_of_lt_of_le hg HMK.out.bel.size
        have j1 : (k : Int) < (m : Int) := by omega
        have HTK : Hid ((lt.take (k + 1)).map thiefAc = (lt.take k).map thiefAc ++ [⟨List.replicate c .theft, none, []⟩]) := Lib.hid (by
          rw [List.take_add_one, ha]; simp [thiefAc])
        have B0 : Hid (Below wr.heap.size wr wr.drew) := Lib.hid (below_drewN (Below.refl _ _) 1)
        have OC : Hid (Calls Try.prog 65 #[natV c] wr.drew fun e w' => ∃ tp tc, e = .returned (.agg #[.slice tp c tc, .nilFunc, .slice none 0 0]) ∧ w'.ownsRow wr.drew.heap.size 122 1 (.slice tp c tc) (List.replicate c St.Op.theft).length (opsV (List.replicate c .theft)) ∧ Below wr.drew.heap.size wr.drew w') := Lib.hid
          ((newThief_any wr.drew c hc60).mono fun e w' h => newAc_form h (by simp))
        obtain ⟨vp, vc, rfl⟩ := slice_form HMK.out.row
        have hvl : vs.length = k + 1 := by rw [HMK.out.len]; simp; have := HM.out; omega
        have HVL := Lib.hid hvl
        have c3 := HMK.out.rbk.cell 3 _ rfl
        have hlr := HMK.out.rbk.lt
        have HROW := Lib.hid HMK.out.row
        rw [hvl] at c3 HMK HROW
        clear hcc ha c0 hra hvl
        go_wp2_with fail
        go_region_law (first
          | (refine wp_append_at _ _ _ 94 (by rfl) w.heap.size 91 i9 (.agg #[.slice none 0 0, .nilFunc, .slice none 0 0]) 3 56 Try.underlying94 GI.out GZ0.out GZ1.out GZ2.out (by rfl) (by decide) (.slice vp (k + 1) vc) (k + 1) (vs.flatMap acC) (by rfl) (by exact (owns_fr HROW.out (Fr.of_below HB5.out : Fr none_ _ _) (fun _ _ h => h)).alloc _) ⟨w5.heap.size, 0, none⟩ 1 1 [.slice tp c tc, .nilFunc, .slice none 0 0] (by rfl) (by rfl) (by exact cells_new3 _ _ _ _ _) (by simp [Value.oneCell']) (by omega) (by omega) (by have := HB5.out.size; have := HMK.out.bel.size; simp; omega) ?_; intro v6 w6 hown6 hG6 hat6; obtain ⟨g6, cp6, rfl, HM6, q1, q2, q3⟩ := snoc_form HMK.out HT5.out HB5.out HVL.out.symm rfl hown6 hG6 hat6; clear hown6 hG6 hat6)
          | (go_simp; go_at_call 65; refine OC.out.mono ?_; rintro e w5 ⟨tp, tc, rfl, hT, hb⟩; have HT5 := Lib.hid hT; have HB5 := Lib.hid (B0.out.trans (hb.mono B0.out.size)); have x5 := cell_of HB5.out c3; have l5 := Nat.lt_of_lt_of_le hlr HB5.out.size; clear hT hb))
        all_goals (go_wp2_with fail)
        all_goals exact ⟨⟨k + 1, _, _, by omega, by go_num, by rw [HTK.out]; exact HM6⟩, by simp [intOf]; omega⟩
      · obtain rfl : k = m := by omega
        have HF : Hid (∃ own ab cap, Ow w own rb cb ab cap (St.mkT (R : Int) lo lt) wr) := Lib.hid (by
          have e1 : lt.take k = lt := List.take_of_length_le (by have := HM.out; omega)
          have hM := HMK.out
          rw [e1] at hM
          have e2 : St.mkT (R : Int) lo lt = ⟨⟨List.replicate R 0, 0, 0⟩, (⟨lo.map opOf, none, []⟩ : St.Ac) :: lt.map thiefAc⟩ := by unfold St.mkT; simp
          rw [e2]
          exact hM.ow (by omega) (by omega) (by simp) (by simp; have := HM.out; omega))
        clear HMK
        go_wp2
        go_ret2
        obtain ⟨own, ab, cap, hO⟩ := HF.out
        exact ⟨rb, cb, own, ab, cap, rfl, hO⟩
end Go.Proofs.Ytajccigefoddiaa
