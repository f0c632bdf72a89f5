/- A race that is made keeps what its steps ask for. -/
import Derived.Test.YtajccigefoddiaaInv2
import Derived.Test.YtajccigefoddiaaNewR
namespace Go.Proofs.Ytajccigefoddiaa
set_option linter.unusedVariables false
set_option linter.unusedSimpArgs false
open Go.RowKit Go.Shelf
open St
theorem rcOk_of {t : St.T} {S : List Int} (h : RInv t S) : RcOk t := by
  refine ⟨fun i a p l ha hat => ?_, fun i a ha => by have := h.gl i a ha; omega⟩
  by_cases hi : i = 0
  · subst hi
    have h1 := h.ownAt ha hat
    have h2 := h.tot a ha
    cases p with
    | write x => have := h1.1; simp [PhOk]; omega
    | raise x => have := h1.1; simp [PhOk]; omega
    | lower => have e : t.d.bottom = (t.d.top + S.length : Nat) := h1; simp [PhOk]; omega
    | readLast => exact h1.2.2
    | last u x => have := h1.2; simp [PhOk]; omega
    | bound u => exact h1.elim
    | reach u => exact h1.elim
    | claim u x => exact h1.elim
    | _ => trivial
  · have h1 := h.thAt (by omega) ha hat
    obtain ⟨o, ho⟩ : ∃ o, t.acts[0]? = some o := ⟨_, List.getElem?_eq_getElem h.n0⟩
    have h2 := h.tot o ho
    cases p with
    | bound u => have e : u ≤ t.d.top := h1; simp [PhOk]; omega
    | reach u => have := h1.1; simp [PhOk]; omega
    | claim u x => have := h1.1; simp [PhOk]; omega
    | write x => exact h1.elim
    | raise x => exact h1.elim
    | lower => exact h1.elim
    | readLast => exact h1.elim
    | last u x => exact h1.elim
    | _ => trivial
theorem okPlan_parts {room : Int} {lo lt : List Int} (h : St.okPlan room lo lt = true) : 1 ≤ room ∧ room ≤ 16 ∧ lo.length ≤ 60 ∧ (∀ x ∈ lo, 0 ≤ x) ∧ lt.length ≤ 8 ∧ ∀ x ∈ lt, 0 ≤ x ∧ x ≤ 60 := by
  unfold St.okPlan at h
  simp only [Bool.and_eq_true, decide_eq_true_eq, List.all_eq_true] at h
  obtain ⟨⟨⟨⟨⟨h1, h2⟩, h3⟩, h4⟩, h5⟩, h6⟩ := h
  refine ⟨h1, h2, h3, fun x hx => ?_, h5, fun x hx => ?_⟩
  · have := h4 x hx; simp [inRange] at this; exact this.1
  · have := h6 x hx; simpa [inRange] using this
theorem inv_mk {room : Int} {lo lt : List Int} (h : St.okPlan room lo lt = true) : RInv (St.mkT room lo lt) [] := by
  obtain ⟨h1, h2, h3, h4, h5, h6⟩ := okPlan_parts h
  have hth : ∀ (i : Nat) a, 0 < i → (St.mkT room lo lt).acts[i]? = some a → ∃ n ∈ lt, a = thiefAc n := fun i a hi e => by
    obtain ⟨j, rfl⟩ : ∃ j, i = j + 1 := ⟨i - 1, by omega⟩
    have e' : (lt.map thiefAc)[j]? = some a := by simpa [St.mkT] using e
    rw [List.getElem?_map] at e'
    cases hj : lt[j]? with
    | none => rw [hj] at e'; cases e'
    | some n => rw [hj] at e'; exact ⟨n, List.mem_of_getElem? hj, by simpa using e'.symm⟩
  have h0 : ∀ a, (St.mkT room lo lt).acts[0]? = some a → a = ⟨lo.map opOf, none, []⟩ := fun a e => by simpa [St.mkT] using e.symm
  refine ⟨⟨by simp [St.mkT]; omega, by simp, fun i x e => by simp at e, fun x e => by simp at e⟩, fun a e => ?_, fun a e => ?_, fun i a hi e => ?_, fun i a hi e => ?_, fun a e => ?_, fun i a e => ?_, by simp [St.mkT]⟩
  · rw [h0 a e]; simp [OwnPh, St.mkT]
  · rw [h0 a e]
    intro op ho
    obtain ⟨x, hx, rfl⟩ := List.mem_map.1 ho
    unfold opOf
    split
    · trivial
    · have := h4 x hx
      show 0 < x
      omega
  · obtain ⟨n, _, rfl⟩ := hth i a hi e; trivial
  · obtain ⟨n, _, rfl⟩ := hth i a hi e
    intro op ho
    exact List.eq_of_mem_replicate ho
  · rw [h0 a e]; simp [St.mkT, Ac.left]; omega
  · by_cases hi : i = 0
    · subst hi
      rw [h0 a e]; simp [Ac.left]; omega
    · obtain ⟨n, hn, rfl⟩ := hth i a (by omega) e
      have := h6 n hn
      simp [thiefAc, Ac.left]; omega
theorem step_cases (t : St.T) (x : Int) : (t.step x = (t, false) ∧ ∀ i : Nat, x = (i : Int) → ∀ a, t.acts[i]? = some a → a.at = none) ∨ ∃ (i : Nat) (a : St.Ac) (p : St.Ph) (l : List St.Op), x = (i : Int) ∧ t.acts[i]? = some a ∧ a.at = some (p, l) ∧ t.step x = (⟨(p.run t.d).1, t.acts.set i (a.after l (p.run t.d))⟩, true) := by
  unfold St.T.step
  by_cases hx : x < 0
  · rw [if_pos hx]; exact .inl ⟨rfl, fun i e => by omega⟩
  · rw [if_neg hx]
    cases ha : t.acts[x.toNat]? with
    | none => exact .inl ⟨rfl, fun i e a ha2 => by rw [show i = x.toNat by omega, ha] at ha2; cases ha2⟩
    | some a =>
      cases hat : a.at with
      | none => exact .inl ⟨by simp [St.Ac.step, hat], fun i e b hb => by rw [show i = x.toNat by omega, ha] at hb; cases hb; exact hat⟩
      | some pl =>
        obtain ⟨p, l⟩ := pl
        exact .inr ⟨x.toNat, a, p, l, by omega, ha, hat, by simp [step_at hat, St.Ac.after]⟩
theorem inv_step {t : St.T} {S : List Int} (h : RInv t S) (x : Int) : ∃ S', RInv (t.step x).1 S' := by
  rcases step_cases t x with ⟨e, _⟩ | ⟨i, a, p, l, rfl, ha, hat, e⟩
  · rw [e]; exact ⟨S, h⟩
  · rw [e]
    obtain ⟨S', _, h', _⟩ := h.step ha hat
    exact ⟨S', h'⟩
/-- A race that was made, after steps. -/
structure Rn (w0 : World) (own : Own) (rb cb ab cap : Nat) (t : St.T) (wr : World) : Prop where
  ow : Ow w0 own rb cb ab cap t wr
  inv : ∃ S, RInv t S
section
variable {w0 wr W : World} {own : Own} {rb cb ab cap : Nat} {t : St.T}
theorem Rn.below (h : Rn w0 own rb cb ab cap t wr) (hb : Below wr.heap.size wr W) : Rn w0 own rb cb ab cap t W := ⟨h.ow.below hb, h.inv⟩
theorem Rn.ok (h : Rn w0 own rb cb ab cap t wr) : RcOk t := by obtain ⟨S, hS⟩ := h.inv; exact rcOk_of hS
theorem Rn.stepC (h : Rn w0 own rb cb ab cap t wr) (x : Int) : Calls Try.prog 18 #[ptr rb, .int .i64 x] wr (stepPostR wr own rb cb ab cap (t.step x)) := by
  obtain ⟨vs, hR⟩ := h.ow.rep
  exact Step_any hR h.ok x
theorem Rn.gone (h : Rn w0 own rb cb ab cap t wr) (x : Int) (hG : Gone wr own rb cb ab cap (t.step x).1 W) : ∃ own', Rn w0 own' rb cb ab cap (t.step x).1 W ∧ (∀ k, k < wr.heap.size → own' k = own k) ∧ Fr (Mine own) wr W := by
  obtain ⟨own', hO, hk, hF⟩ := h.ow.gone hG
  obtain ⟨S, hS⟩ := h.inv
  exact ⟨own', ⟨hO, inv_step hS x⟩, hk, hF⟩
theorem Rn.overC (h : Rn w0 own rb cb ab cap t wr) : Calls Try.prog 27 #[ptr rb] wr (still wr (.bool t.over)) := by
  obtain ⟨vs, hR⟩ := h.ow.rep
  exact Over_any hR
theorem Rn.gotC (h : Rn w0 own rb cb ab cap t wr) (x : Int) : Calls Try.prog 24 #[ptr rb, .int .i64 x] wr (numsPost wr (t.gotOf x)) := by
  obtain ⟨vs, hR⟩ := h.ow.rep
  exact Got_any hR x
theorem Rn.restC (h : Rn w0 own rb cb ab cap t wr) : Calls Try.prog 21 #[ptr rb] wr (numsPost wr t.d.rest) := by
  obtain ⟨vs, hR⟩ := h.ow.rep
  exact Rest_any hR
end
def awS : Nat → St.T
  | 0 => St.mkT 2 [7, 0] []
  | k + 1 => ((awS k).step 0).1
theorem aw_over : (awS 20).over = true := by decide +kernel
theorem aw_got : (awS 20).gotOf 0 = [7, 7] := by decide +kernel
theorem aw_rest : (awS 20).d.rest = [] := by decide +kernel
theorem aw_ok : St.okPlan 2 [7, 0] [] = true := by decide +kernel
set_option maxRecDepth 100000 in
set_option maxHeartbeats 4000000 in
theorem awake_any (w : World) : Calls Try.prog 15 #[] w (still w (.bool true)) := by
  unfold still
  have HB0 : Hid (Below w.heap.size w (w.alloc (.cells #[.int .i64 7, .int .i64 0] 3))) := Lib.hid (one _ _)
  have hN : NumsAt (w.alloc (.cells #[.int .i64 7, .int .i64 0] 3)) (some ⟨w.heap.size, 0, none⟩) [7, 0] := fun _ => by
    have hB := Blk.new w #[.int .i64 7, .int .i64 0] 3
    refine ⟨_, 0, rfl, hB.lt, fun j hj => ?_⟩
    have : j = 0 ∨ j = 1 := by simp at hj; omega
    rcases this with rfl | rfl
    · exact hB.cell 0 _ rfl
    · exact hB.cell 1 _ rfl
  have N := Lib.hid (newRace_any (w.alloc (.cells #[.int .i64 7, .int .i64 0] 3)) 2 (some ⟨w.heap.size, 0, none⟩) none 2 0 [7, 0] [] (by simp) (by simp) hN (fun h => by simp at h))
  unfold newPost at N
  rw [aw_ok] at N
  simp only [if_true] at N
  clear hN
  go_enter Try.func15, Try.ntmps15
  go_wp2_with fail
  refine N.out.mono ?_
  rintro e w1 ⟨rb, cb, own, ab, cap, rfl, hO⟩
  have HR : Hid (Rn w own rb cb ab cap (awS 0) w1) := Lib.hid ⟨⟨hO.rep, fun k r e => Nat.le_trans HB0.out.size (hO.ge k r e), HB0.out.trans (hO.bel.mono HB0.out.size)⟩, _, inv_mk aw_ok⟩
  clear hO N
  go_wp2_with fail
  go_loopw [10] (fun i wr => ∃ (k : Nat) (own : Own), k ≤ 20 ∧ i = .int .i64 (k : Int) ∧ Hid (Rn w own rb cb ab cap (awS k) wr)) (fun i _ => 20 - (intOf i).toNat)
  case atStart => exact ⟨0, own, Nat.zero_le _, rfl, HR⟩
  case round =>
    obtain ⟨k, own, hk, rfl, HR⟩ := hrel
    by_cases hlt : k < 20
    · have C := Lib.hid (HR.out.stepC 0)
      unfold stepPostR at C
      have j1 : (k : Int) < 20 := by omega
      go_wp2_with fail
      refine C.out.mono ?_
      rintro e w2 ⟨rfl, hG⟩
      obtain ⟨own2, hR2, -, -⟩ := HR.out.gone 0 hG
      have HR2 : Hid (Rn w own2 rb cb ab cap (awS (k + 1)) w2) := Lib.hid hR2
      clear hG hR2 C
      go_wp2
      go_roundw
      case rel => exact ⟨k + 1, own2, by omega, by go_num, HR2⟩
      case measure => simp [intOf]; omega
    · obtain rfl : k = 20 := by omega
      have C1 := Lib.hid HR.out.overC
      rw [aw_over] at C1
      unfold still at C1
      go_wp2_with fail
      refine C1.out.mono ?_
      rintro e w2 ⟨rfl, hb⟩
      have HR2 := Lib.hid (HR.out.below hb)
      have C2 := Lib.hid (HR2.out.gotC 0)
      rw [aw_got] at C2
      unfold numsPost at C2
      clear hb C1 HR
      go_wp2_with fail
      refine C2.out.mono ?_
      rintro e w3 ⟨p, cp, rfl, h1, h2, h3, h4⟩
      have HR3 := Lib.hid (HR2.out.below h4)
      have hN2 : NumsAt (w3.alloc (.cells #[.int .i64 7, .int .i64 7] 3)) (some ⟨w3.heap.size, 0, none⟩) [7, 7] := fun _ => by
        have hB := Blk.new w3 #[.int .i64 7, .int .i64 7] 3
        refine ⟨_, 0, rfl, hB.lt, fun j hj => ?_⟩
        have : j = 0 ∨ j = 1 := by simp at hj; omega
        rcases this with rfl | rfl
        · exact hB.cell 0 _ rfl
        · exact hB.cell 1 _ rfl
      have EQ := Lib.hid (equalI_any (w3.alloc (.cells #[.int .i64 7, .int .i64 7] 3)) p (some ⟨w3.heap.size, 0, none⟩) cp 2 [7, 7] [7, 7] (by simp) (by simp) ((nums_at h3).below (one _ _)) hN2)
      rw [show (([7, 7] : List Int) == [7, 7]) = true by decide] at EQ
      unfold still at EQ
      clear h3 h4 hN2 C2 HR2
      go_wp2_with fail
      refine EQ.out.mono ?_
      rintro e w4 ⟨rfl, hb⟩
      have HR4 := Lib.hid (HR3.out.below ((one w3 (.cells #[.int .i64 7, .int .i64 7] 3)).trans (hb.mono (by simp))))
      have C3 := Lib.hid HR4.out.restC
      rw [aw_rest] at C3
      unfold numsPost at C3
      clear hb EQ HR3
      go_wp2_with fail
      refine C3.out.mono ?_
      rintro e w5 ⟨p5, c5, rfl, h1, h2, h3, h4⟩
      have HB := Lib.hid (HR4.out.below h4).ow.bel
      clear h3 h4 C3 HR4
      go_wp2
      go_ret
      exact ⟨rfl, HB.out⟩
end Go.Proofs.Ytajccigefoddiaa
