/- LedgerNested. -/
import Derived.StillTailTactics
import Derived.Test.YtapbghkoijmjeaaNesRel
import Derived.Test.YtapbghkoijmjeaaFrame
namespace Go.Proofs.Ytapbghkoijmjeaa
set_option linter.unusedVariables false
set_option linter.unusedSimpArgs false
open Go.RowKit Go.Shelf
/-- A call of the first loop: an acquisition, or the release of what was acquired last. -/
def Ld.nest (t : Ld.T) (o : Op) : Ld.T :=
  if o.kd = 0 then (Ld.acquire t o.task o.what).1
  else if Ld.knows o.task = false then t
  else match (t.hs o.task.toNat).reverse with
    | [] => t
    | a :: r => Ld.pop t o.task.toNat r.reverse a
def NS (w : World) (b : Nat) (wr : World) (t : Ld.T) (own : Own) : Prop := Ow w own b t wr ∧ Nst t ∧ Wok t
theorem NS.go {w : World} {b : Nat} {wr w2 : World} {t t' : Ld.T} {own : Own} (h : NS w b wr t own) (hG : Gone wr own b t' w2) (hn : Nst t') (hw : Wok t') : ∃ own', NS w b w2 t' own' := by
  obtain ⟨own', hO, -, -⟩ := h.1.gone hG hn.inv.ok
  exact ⟨own', hO, hn, hw⟩
theorem NS.below {w : World} {b : Nat} {wr w2 : World} {t : Ld.T} {own : Own} (h : NS w b wr t own) (hb : Below wr.heap.size wr w2) : NS w b w2 t own := ⟨h.1.below hb, h.2⟩
theorem held_cases {t : Ld.T} (h : Ld.Ok t) (task : Int) : (Ld.knows task = false ∧ Ld.held t task = ([], 2)) ∨ (∃ k : Nat, task = (k : Int) ∧ 1 ≤ k ∧ k ≤ 64 ∧ t.hs k = [] ∧ Ld.held t task = ([], 0)) ∨
    ∃ (k : Nat) (l : List Nat) (a : Nat), task = (k : Int) ∧ 1 ≤ k ∧ k ≤ 64 ∧ t.hs k = l ++ [a] ∧ Ld.held t task = (l.map (Ld.whatOf t) ++ [Ld.whatOf t a], 0) := by
  unfold Ld.held
  by_cases hk : Ld.knows task = false
  · exact .inl ⟨hk, by rw [if_pos hk]⟩
  · obtain ⟨k, rfl, k1, k2⟩ := knows_nat (by simpa using hk)
    rw [if_neg hk, show ((k : Int)).toNat = k by omega]
    rcases List.eq_nil_or_concat (t.hs k) with hn | ⟨l, a, hc⟩
    · exact .inr (.inl ⟨k, rfl, k1, k2, hn, by rw [hn]; rfl⟩)
    · rw [List.concat_eq_append] at hc
      exact .inr (.inr ⟨k, l, a, rfl, k1, k2, hc, by rw [hc]; simp⟩)
/-- What holds between the rounds of the release of all that task q holds. -/
structure LoopI (w wr : World) (v : Value) (H : List Int) (q i : Nat) (t : Ld.T) (own : Own) : Prop where
  ns : NS w w.heap.size wr t own
  bef : ∀ j, 1 ≤ j → j < q → t.hs j = []
  left : ((t.hs q).map (Ld.whatOf t)).reverse = H.reverse.drop i
  row : wr.ownsRow w.heap.size 3 1 v H.length (H.reverse.map (Value.int .i64))
  out_ : ∀ r, v.ownBlock = some r → own r = none
theorem LoopI.below {w wr w2 : World} {v : Value} {H : List Int} {q i : Nat} {t : Ld.T} {own : Own} (h : LoopI w wr v H q i t own) (hb : Below wr.heap.size wr w2) : LoopI w w2 v H q i t own :=
  ⟨h.ns.below hb, h.bef, h.left, owns_fr h.row (Fr.of_below (S := none_) hb) (fun _ _ h => h), h.out_⟩
theorem LoopI.cons {w wr : World} {v : Value} {H : List Int} {q i : Nat} {t : Ld.T} {own : Own} (h : LoopI w wr v H q i t own) (hi : i < H.length) : ∃ (l : List Nat) (a : Nat), t.hs q = l ++ [a] ∧ H.reverse[i]? = some (Ld.whatOf t a) ∧ (l.map (Ld.whatOf t)).reverse = H.reverse.drop (i + 1) := by
  have hl := h.left
  have hi2 : i < H.reverse.length := by rw [List.length_reverse]; exact hi
  rw [List.drop_eq_getElem_cons hi2] at hl
  rcases List.eq_nil_or_concat (t.hs q) with hn | ⟨l, a, hc⟩
  · rw [hn] at hl; simp at hl
  · rw [List.concat_eq_append] at hc
    rw [hc, List.map_append, List.reverse_append] at hl
    simp only [List.map_cons, List.map_nil, List.reverse_cons, List.reverse_nil, List.nil_append, List.cons_append, List.cons.injEq] at hl
    exact ⟨l, a, hc, by rw [List.getElem?_eq_getElem hi2, hl.1], hl.2⟩
theorem LoopI.step {w wr w2 : World} {v : Value} {H : List Int} {q i : Nat} {t : Ld.T} {own : Own} (h : LoopI w wr v H q i t own) {l : List Nat} {a : Nat} (hs : t.hs q = l ++ [a]) (hd : (l.map (Ld.whatOf t)).reverse = H.reverse.drop (i + 1))
    (hG : Gone wr own w.heap.size (Ld.pop t q l a) w2) : ∃ own', LoopI w w2 v H q (i + 1) (Ld.pop t q l a) own' := by
  have hn := h.ns.2.1.pop hs
  obtain ⟨own', hO, hk, hF⟩ := h.ns.1.gone hG hn.inv.ok
  have hlt : ∀ r, v.ownBlock = some r → r < wr.heap.size := fun r e => (h.row.lt r e).2
  refine ⟨own', ⟨hO, hn, h.ns.2.2.pop q l a⟩, fun j j1 j2 => ?_, ?_, owns_fr h.row hF (fun r e hx => hx (h.out_ r e)), fun r e => by rw [hk r (hlt r e)]; exact h.out_ r e⟩
  · rw [pop_hs]; simp only; rw [if_neg (by omega)]; exact h.bef j j1 j2
  · rw [pop_hs]; simp only
    simp only [if_true]
    rw [show Ld.whatOf (Ld.pop t q l a) = Ld.whatOf t from funext (pop_what t q l a)]
    exact hd
theorem nest_open {w wr w4 w5 : World} {p : Option Addr} {cv : Nat} {H : List Int} {q : Nat} {t : Ld.T} {own : Own} (hR : NS w w.heap.size wr t own) (hB : ∀ j, 1 ≤ j → j < q → t.hs j = []) (hH : H = (t.hs q).map (Ld.whatOf t)) (hT : NumsR wr w4 (.slice p H.length cv) H)
    (hrow : w5.ownsRow wr.heap.size 3 1 (.slice p H.length cv) H.length (H.reverse.map (Value.int .i64))) (hF : Fr (fun x => (Value.slice p H.length cv).ownBlock = some x) w4 w5) : LoopI w w5 (.slice p H.length cv) H q 0 t own := by
  have hb : Below wr.heap.size wr w5 := hT.2.trans (hF.below (fun x hx => (hT.1.lt x hx).1) hT.2.size)
  obtain ⟨L, hL⟩ := hR.1.rep
  refine ⟨hR.below hb, hB, by rw [← hH]; rfl, ⟨hrow.1, hrow.2.imp id fun ⟨g, c, cur, a, b, d⟩ => ⟨g, c, cur, a, Nat.le_trans hR.1.bel.size b, d⟩⟩, fun r e => hL.not_own (hT.1.lt r e).1⟩
theorem LoopI.done {w wr : World} {v : Value} {H : List Int} {q : Nat} {t : Ld.T} {own : Own} (h : LoopI w wr v H q H.length t own) : ∀ j, 1 ≤ j → j < q + 1 → t.hs j = [] := by
  intro j j1 j2
  by_cases hj : j < q
  · exact h.bef j j1 hj
  · obtain rfl : j = q := by omega
    have := h.left
    rw [List.drop_of_length_le (by simp)] at this
    simpa using this
set_option maxRecDepth 100000 in
set_option maxHeartbeats 8000000 in
theorem law_nested (w : World) (p : Option Addr) (cap : Nat) (Lo : List Op) (hL : OpsIn w p cap Lo) : Calls Try.prog 6 #[.slice p Lo.length cap] w (still w (.bool true)) := by
  unfold still
  have N := Lib.hid (new_any w)
  unfold newPost at N
  have AW := Lib.hid awake_any
  unfold still at AW
  have HL := Lib.hid hL
  obtain ⟨n, hn⟩ : ∃ n, n = min Lo.length 100 := ⟨_, rfl⟩
  have HN := Lib.hid hn
  have hn1 : (min (Lo.length : Int) 100) = (n : Int) := by omega
  have hcl := hL.le
  have hcm := hL.cap
  unfold maxLen at hcm
  obtain ⟨ln, hln⟩ : ∃ ln, ln = Lo.length := ⟨_, rfl⟩
  have HLN := Lib.hid hln
  rw [← hln] at hn1 hcl ⊢
  have hnl : n ≤ ln := by omega
  have hn100 : n ≤ 100 := by omega
  clear hL hn hln
  go_enter Try.func6, Try.ntmps6
  go_wp2_with fail
  refine N.out.mono ?_
  rintro e w1 ⟨rfl, hO1⟩
  have HS : Hid (NS w w.heap.size w1 Ld.new (own0 w.heap.size)) := Lib.hid ⟨hO1, nst0, wok0⟩
  clear hO1 N
  go_wp2_with fail
  go_loopw [20] (fun i wr => ∃ (k : Nat) (t : Ld.T) (own : Own), k ≤ n ∧ i = .int .i64 (k : Int) ∧ Hid (NS w w.heap.size wr t own)) (fun i _ => n - (intOf i).toNat)
  case atStart => exact ⟨0, _, _, Nat.zero_le _, rfl, HS⟩
  case round =>
    obtain ⟨k, t, own, hk, rfl, HR⟩ := hrel
    clear HS
    by_cases hlt : k < n
    · obtain ⟨o, ho⟩ : ∃ o, Lo[k]? = some o := ⟨_, List.getElem?_eq_getElem (by have := HLN.out; omega)⟩
      obtain ⟨ab, ao, rfl, hab, c0, c1, c2⟩ := HL.out.cells ho HR.out.1.bel
      have habr : ab < wr.heap.size := Nat.lt_of_lt_of_le hab HR.out.1.bel.size
      have j1 : (k : Int) < (n : Int) := by omega
      have R1 := HR.out.below (one wr (.cells #[.int .i64 o.kd, .int .i64 o.task, .int .i64 o.what] 30))
      have HR1 := Lib.hid R1
      obtain ⟨L1, hL1⟩ := R1.1.rep
      have BO := Lib.hid (Blk.new wr #[.int .i64 o.kd, .int .i64 o.task, .int .i64 o.what] 30)
      clear ho hab
      by_cases h0 : o.kd = 0
      · have A := Lib.hid (acquire_any hL1 R1.1.ok o.task o.what)
        unfold goneI at A
        have HQ : Hid (Nst (Ld.acquire t o.task o.what).1 ∧ Wok (Ld.acquire t o.task o.what).1) := Lib.hid ⟨R1.2.1.acquire _ _, R1.2.2.acquire _ _⟩
        generalize Ld.acquire t o.task o.what = r at *
        rw [h0] at c0 A HR1
        have h0' : (o.kd == 0) = true := by simpa using h0
        clear h0 R1 hL1
        go_wp2_with fail
        refine A.out.mono ?_
        rintro e w2 ⟨rfl, hG⟩
        obtain ⟨own2, hN2⟩ := HR1.out.go hG HQ.out.1 HQ.out.2
        have HN2 := Lib.hid hN2
        clear hG hN2 A
        go_wp2
        go_roundw
        case rel => exact ⟨k + 1, _, own2, by omega, by go_num, HN2⟩
        case measure => simp [intOf]; omega
      · have h0' : (o.kd == 0) = false := by simpa using h0
        have A := Lib.hid (held_any hL1 R1.1.ok o.task)
        unfold heldPost at A
        have c2' := BO.out.cell 1 _ rfl
        rcases held_cases R1.1.ok o.task with ⟨hk0, he⟩ | ⟨q, hq, q1, q2, hs, he⟩ | ⟨q, l, a, hq, q1, q2, hs, he⟩
        · rw [he] at A
          simp only at A
          clear h0 R1 hL1 he hk0
          go_wp2_with fail
          refine A.out.mono ?_
          rintro e w2 ⟨pv, cv, rfl, hv1, hv2, hT⟩
          have HN2 := Lib.hid (HR1.out.below hT.2)
          clear hT A
          simp only [List.length_nil] at *
          go_wp2_with fail
          go_quiet (fail)
          go_wp2
          go_roundw
          case rel => exact ⟨k + 1, _, own, by omega, by go_num, Lib.hid (HN2.out.below (below_drewN (Below.refl _ _) _))⟩
          case measure => simp [intOf]; omega
        · rw [he] at A
          simp only at A
          clear h0 R1 hL1 he hs hq
          go_wp2_with fail
          refine A.out.mono ?_
          rintro e w2 ⟨pv, cv, rfl, hv1, hv2, hT⟩
          have HN2 := Lib.hid (HR1.out.below hT.2)
          clear hT A
          simp only [List.length_nil] at *
          go_wp2_with fail
          go_quiet (fail)
          go_wp2
          go_roundw
          case rel => exact ⟨k + 1, _, own, by omega, by go_num, Lib.hid (HN2.out.below (below_drewN (Below.refl _ _) _))⟩
          case measure => simp [intOf]; omega
        · rw [he] at A
          simp only at A
          have HSQ := Lib.hid hs
          have hlq : l.length < 40 := by have := R1.2.1.inv.n40 q; rw [hs] at this; simp at this; omega
          have hwk : Ld.isWhat (Ld.whatOf t a) = true := R1.2.2.of (R1.2.1.inv.ok.lt q a (by rw [hs]; simp))
          have HPR := Lib.hid (pop_release R1.2.1 q1 q2 hs hwk)
          have HNP : Hid (Nst (Ld.pop t q l a) ∧ Wok (Ld.pop t q l a)) := Lib.hid ⟨R1.2.1.pop hs, R1.2.2.pop q l a⟩
          have HTK := Lib.hid hq
          have hlen : (l.map (Ld.whatOf t) ++ [Ld.whatOf t a]).length = l.length + 1 := by simp
          rw [hlen] at A
          have HGE : Hid ((l.map (Ld.whatOf t) ++ [Ld.whatOf t a])[l.length]? = some (Ld.whatOf t a)) := Lib.hid (by simp)
          have HLEN := Lib.hid hlen
          clear h0 R1 hL1 he hs hq hwk hlen
          go_wp2_with fail
          refine A.out.mono ?_
          rintro e w2 ⟨pv, cv, rfl, hv1, hv2, hT⟩
          have HT := Lib.hid hT
          have HN2 := Lib.hid (HR1.out.below hT.2)
          have hrow := hT.1
          rw [HLEN.out] at hrow
          obtain ⟨g, cap2, hpe⟩ := ownsRow_succ hrow
          cases hpe
          have cg : w2.cell? ⟨g, l.length, none⟩ = some (.int .i64 (Ld.whatOf t a)) := by
            have := hrow.cells (g := g) rfl l.length (.int .i64 (Ld.whatOf t a)) (by rw [List.getElem?_map, HGE.out]; rfl)
            rw [add_off, Nat.zero_add] at this
            exact this
          have B2 := BO.out.below hT.2 (by simp)
          have d1 := B2.cell 1 _ rfl
          have dl := B2.lt
          have dg := World.block_lt_of_cell? _ _ cg
          have RL : Hid (∀ W, Below w2.heap.size w2 W → Calls Try.prog 18 #[ptr w.heap.size, .int .i64 o.task, .int .i64 (Ld.whatOf t a)] W (goneI W own w.heap.size (Ld.pop t q l a, 0))) := Lib.hid fun W hW => by
            obtain ⟨L3, hL3⟩ := (HN2.out.below hW).1.rep
            have := rls_any hL3 HN2.out.2.1.inv.ok o.task (Ld.whatOf t a)
            rw [HTK.out, HPR.out] at this
            rw [HTK.out]
            exact this
          unfold goneI at RL
          have e7 : IntKind.i64.wrap (((l.length : Int) + 1) - 1) = (l.length : Int) := by rw [IntWalk.i64_in _ (by omega)]; omega
          have e8 : ((l.length : Int) + 1) - 1 = (l.length : Int) := by omega
          have e9 : (l.length : Int) < (l.length : Int) + 1 := by omega
          clear hT A hrow B2
          go_wp2_with fail
          have eD : decide ((0:Int) < (l.length:Int) + 1) = true := by simp
          have eD2 : decide (0 < l.length + 1) = true := by simp
          have e10 : IntKind.i64.wrap (l.length : Int) = (l.length : Int) := IntWalk.i64_in _ (by omega)
          go_still_tail 17, (by kernel_rfl)
          change wpList _ _ _ _ _ w2.drew
          have RL2 := Lib.hid (RL.out w2.drew (below_drewN (Below.refl _ _) 1))
          clear cg d1
          go_wp2_with fail
          refine RL2.out.mono ?_
          rintro e w3 ⟨rfl, hG⟩
          obtain ⟨own3, hN3⟩ := (HN2.out.below (below_drewN (Below.refl _ _) 1)).go hG HNP.out.1 HNP.out.2
          have HN3 := Lib.hid hN3
          clear hG hN3 RL RL2
          go_wp2
          go_roundw
          case rel => exact ⟨k + 1, _, own3, by omega, by go_num, HN3⟩
          case measure => simp [intOf]; omega
    · obtain rfl : k = n := by omega
      have A := Lib.hid (fun W hW => crossed_any (HR.out.below hW).1.rep.choose_spec (by have := HR.out.2.1.inv.n400; omega) : ∀ W, Below wr.heap.size wr W → Calls Try.prog 20 #[ptr w.heap.size] W (numsPost W (ints (Ld.which (fun e => e.cr) t.es))))
      have A2 := Lib.hid (fun W hW => leaks_any (HR.out.below hW).1.rep.choose_spec (by have := HR.out.2.1.inv.n400; omega) : ∀ W, Below wr.heap.size wr W → Calls Try.prog 21 #[ptr w.heap.size] W (numsPost W (ints (Ld.which (fun e => e.lk) t.es))))
      rw [HR.out.2.1.crossed] at A
      rw [HR.out.2.1.leaks] at A2
      unfold numsPost at A A2
      simp only [ints, List.map_nil, List.length_nil] at A A2
      go_wp2_with fail
      refine (A.out wr (Below.refl _ _)).mono ?_
      rintro e w2 ⟨p2, cap2, rfl, h21, h22, hT2⟩
      have HB2 := Lib.hid hT2.2
      clear hT2 A
      go_wp2_with fail
      refine (A2.out w2 HB2.out).mono ?_
      rintro e w3 ⟨p3, cap3, rfl, h31, h32, hT3⟩
      have HS3 : Hid (NS w w.heap.size w3 t own) := Lib.hid (HR.out.below (HB2.out.trans (hT3.2.mono HB2.out.size)))
      clear hT3 A2
      go_wp2_with fail
      go_loopw [8] (fun v wr => ∃ (q : Nat) (t : Ld.T) (own : Own), 1 ≤ q ∧ q ≤ 65 ∧ v = .int .i64 (q : Int) ∧ Hid (NS w w.heap.size wr t own) ∧ Hid (∀ j, 1 ≤ j → j < q → t.hs j = [])) (fun v _ => 65 - (intOf v).toNat)
      case atStart => exact ⟨1, t, own, Nat.le_refl _, by omega, rfl, HS3, Lib.hid (fun j h1 h2 => by omega)⟩
      case round =>
        obtain ⟨q, t, own, q1, q2, rfl, HR, HB⟩ := hrel
        clear HS3
        by_cases hq : q ≤ 64
        · have hq64 : decide ((q : Int) ≤ 64) = true := by simp; omega
          obtain ⟨L1, hL1⟩ := HR.out.1.rep
          have A := Lib.hid (held_ok hL1 HR.out.2.1.inv.ok q1 hq)
          have hH0 : (t.hs q).length ≤ 40 := HR.out.2.1.inv.n40 q
          obtain ⟨H, hH⟩ : ∃ H, H = (t.hs q).map (Ld.whatOf t) := ⟨_, rfl⟩
          have hH1 : H.length ≤ 40 := by rw [hH, List.length_map]; exact hH0
          rw [← hH] at A
          unfold heldPost at A
          simp only at A
          have HH := Lib.hid hH
          clear hL1 hH hH0
          go_wp2_with fail
          refine A.out.mono ?_
          rintro e w4 ⟨pv, cv, rfl, hv1, hv2, hT⟩
          have RV := Lib.hid (rev_row w4 H (by omega) hT.1)
          have HT := Lib.hid hT
          clear hT A
          go_wp2_with fail
          refine RV.out.mono ?_
          rintro e w5 ⟨rfl, hrow, hF⟩
          have HL5 : Hid (LoopI w w5 (.slice pv H.length cv) H q 0 t own) := Lib.hid (nest_open HR.out HB.out HH.out HT.out hrow hF)
          clear hrow hF RV HT
          go_wp2_with fail
          have eO : decide ((q : Int) ≤ 64) = true := hq64
          go_loopw [87] (fun v wr => ∃ (i : Nat) (t : Ld.T) (own : Own), i ≤ H.length ∧ v = .int .i64 (i : Int) ∧ Hid (LoopI w wr (.slice pv H.length cv) H q i t own)) (fun v _ => H.length - (intOf v).toNat)
          case atStart => exact ⟨0, t, own, Nat.zero_le _, rfl, HL5⟩
          case round =>
            obtain ⟨i, t, own, hi, rfl, HI⟩ := hrel
            clear HL5 HR HB HH
            by_cases hil : i < H.length
            · obtain ⟨l, a, hs, hx, hd⟩ := HI.out.cons hil
              have HS := Lib.hid hs
              have HD := Lib.hid hd
              obtain ⟨m, hm⟩ : ∃ m, H.length = m + 1 := ⟨H.length - 1, by omega⟩
              have hrow := HI.out.row
              rw [hm] at hrow
              obtain ⟨g, cap2, hpe⟩ := ownsRow_succ hrow
              cases hpe
              have cg : wr.cell? ⟨g, i, none⟩ = some (.int .i64 (Ld.whatOf t a)) := by
                have := hrow.cells (g := g) rfl i (.int .i64 (Ld.whatOf t a)) (by rw [List.getElem?_map, hx]; rfl)
                rw [add_off, Nat.zero_add] at this
                exact this
              have dg := World.block_lt_of_cell? _ _ cg
              have hn := HI.out.ns.2.1
              have hal : a ∈ t.hs q := by rw [hs]; simp
              have SD : Hid (∀ W, Below wr.heap.size wr W → Calls Try.prog 22 #[ptr w.heap.size] W (still W (.bool false))) := Lib.hid fun W hW => by
                have h1 := HI.out.ns.below hW
                obtain ⟨L3, hL3⟩ := h1.1.rep
                have := sound_any hL3 (by have := h1.2.1.inv.n400; omega)
                rw [h1.2.1.unsound hal] at this
                exact this
              unfold still at SD
              have RL : Hid (∀ W, Below wr.heap.size wr W → Calls Try.prog 18 #[ptr w.heap.size, .int .i64 (q : Int), .int .i64 (Ld.whatOf t a)] W (goneI W own w.heap.size (Ld.pop t q l a, 0))) := Lib.hid fun W hW => by
                obtain ⟨L3, hL3⟩ := (HI.out.ns.below hW).1.rep
                have := rls_any hL3 hn.inv.ok (q : Int) (Ld.whatOf t a)
                rw [pop_release hn q1 hq hs (HI.out.ns.2.2.of (hn.inv.ok.lt q a hal))] at this
                exact this
              unfold goneI at RL
              have j1 : (i : Int) < (H.length : Int) := by omega
              clear hs hd hrow hx hn hal hm
              go_wp2_with fail
              refine (SD.out wr (Below.refl _ _)).mono ?_
              rintro e w6 ⟨rfl, hb6⟩
              have HI6 := Lib.hid (HI.out.below hb6)
              have RL6 := Lib.hid (RL.out w6 hb6)
              clear hb6 SD RL cg
              go_wp2_with fail
              refine RL6.out.mono ?_
              rintro e w7 ⟨rfl, hG⟩
              obtain ⟨own7, hI7⟩ := HI6.out.step HS.out HD.out hG
              have HI7 := Lib.hid hI7
              clear hG hI7 RL6
              go_wp2
              go_roundw
              case rel => exact ⟨i + 1, _, own7, by omega, by go_num, HI7⟩
              case measure => simp [intOf]; omega
            · obtain rfl : i = H.length := by omega
              go_wp2
              go_roundw
              case rel => exact ⟨q + 1, t, own, by omega, by omega, by go_num, Lib.hid HI.out.ns, Lib.hid HI.out.done⟩
              case measure => simp [intOf]; omega
        · obtain rfl : q = 65 := by omega
          have SD : Hid (∀ W, Below wr.heap.size wr W → Calls Try.prog 22 #[ptr w.heap.size] W (still W (.bool true))) := Lib.hid fun W hW => by
            have h1 := HR.out.below hW
            obtain ⟨L3, hL3⟩ := h1.1.rep
            have := sound_any hL3 (by have := h1.2.1.inv.n400; omega)
            rw [h1.2.1.sound (fun k k1 k2 => HB.out k k1 (by omega))] at this
            exact this
          unfold still at SD
          go_wp2_with fail
          refine (SD.out wr (Below.refl _ _)).mono ?_
          rintro e w2 ⟨rfl, hb⟩
          have HW2 : Hid (Below w.heap.size w w2) := Lib.hid (HR.out.1.bel.trans (hb.mono HR.out.1.bel.size))
          clear hb SD
          go_wp2_with fail
          refine (AW.out _).mono ?_
          rintro e w3 ⟨rfl, hb⟩
          have HW3 : Hid (Below w.heap.size w w3) := Lib.hid (HW2.out.trans (hb.mono HW2.out.size))
          clear hb
          go_wp2
          go_ret
          exact ⟨rfl, HW3.out⟩
theorem law_nested_c (v : Value) (w : World) (h : OpsArg w v) : Calls Try.prog 6 #[v] w fun e w' => e = .returned (.bool true) ∧ Below w.heap.size w w' := by
  obtain ⟨p, cap, L, rfl, hL⟩ := h
  exact law_nested w p cap L hL
end Go.Proofs.Ytapbghkoijmjeaa
