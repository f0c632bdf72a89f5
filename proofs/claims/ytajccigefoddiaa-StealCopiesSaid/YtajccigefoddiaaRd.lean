/- What Over, Got and Rest do. -/
import Derived.Test.YtajccigefoddiaaLib1
namespace Go.Proofs.Ytajccigefoddiaa
set_option linter.unusedVariables false
set_option linter.unusedSimpArgs false
open Go.RowKit Go.Shelf
def St.T.gotOf (t : St.T) (x : Int) : List Int := if x < 0 then [] else match t.acts[x.toNat]? with | none => [] | some a => a.got
def St.Ac.isOver (a : St.Ac) : Bool := a.at.isNone
def St.T.over (t : St.T) : Bool := t.acts.all St.Ac.isOver
def St.Dq.rest (d : St.Dq) : List Int := (List.range (d.bottom - d.top).toNat).map fun i => d.cell (d.top + i)
section
variable {W W' w : World} {own : Own} {rb cb ab cap : Nat} {vs : List Av} {t : St.T} {A : Nat → Prop}
set_option maxRecDepth 100000 in
theorem Got_nil (x : Int) (w : World) : Calls Try.prog 24 #[.pointer none, .int .i64 x] w (same w (.slice none 0 0)) := by
  have H := Lib.hid (has_nil (w := w) x)
  unfold same at H ⊢
  go_enter Try.func24, Try.ntmps24
  go_wp2_with fail
  refine H.out.mono ?_
  rintro e w1 ⟨rfl, rfl⟩
  go_wp2
  go_ret
  exact ⟨rfl, rfl⟩
set_option maxRecDepth 100000 in
theorem Got_any (h : Rep w own rb cb ab vs cap t) (x : Int) : Calls Try.prog 24 #[ptr rb, .int .i64 x] w (numsPost w (t.gotOf x)) := by
  have H := Lib.hid (has_any h x)
  unfold same at H
  by_cases hx : 0 ≤ x ∧ x < t.acts.length
  · obtain ⟨i, rfl⟩ : ∃ i : Nat, x = (i : Int) := ⟨x.toNat, by omega⟩
    have hi : i < t.acts.length := by omega
    obtain ⟨a, ha⟩ : ∃ a, t.acts[i]? = some a := ⟨_, List.getElem?_eq_getElem hi⟩
    have hiv : i < vs.length := by have := h.len; omega
    obtain ⟨v, hv⟩ : ∃ v, vs[i]? = some v := ⟨_, List.getElem?_eq_getElem hiv⟩
    have e1 : t.gotOf (i : Int) = a.got := by unfold St.T.gotOf; rw [if_neg (by omega), show (i : Int).toNat = i by omega, ha]
    rw [e1]
    have hg := h.got i v a hv ha
    obtain ⟨gp, gc, eg, -⟩ := owns_form hg
    have hcg : w.cell? ⟨ab, i * 3 + 2, none⟩ = some v.got := h.blk.cell _ _ (flat_get3 2 hv (by omega))
    rw [eg] at hg hcg
    have CL := Lib.hid (clone_at w gp a.got.length gc a.got rfl (by have := h.gl i a ha; omega) (nums_at hg))
    have c3 := h.dq.blk.cell 3 _ rfl
    have hlt := h.dq.blk.lt
    have hla := h.blk.lt
    have hn := h.n9
    rw [show decide (0 ≤ (i : Int) ∧ (i : Int) < t.acts.length) = true by simp; omega] at H
    generalize t.acts.length = n at *
    generalize a.got = l at *
    have j1 : (i : Int) < (n : Int) := by omega
    have j2 : (0 : Int) ≤ (i : Int) := by omega
    unfold numsPost at CL ⊢
    clear h hx ha hv hg eg e1
    go_enter Try.func24, Try.ntmps24
    go_wp2_with fail
    refine H.out.mono ?_
    rintro e w1 ⟨rfl, rfl⟩
    go_wp2_with fail
    refine CL.out.mono ?_
    rintro e w2 ⟨p, cp, rfl, h1, h2, h3, h4⟩
    go_wp2
    go_ret
    exact ⟨p, cp, rfl, h1, h2, h3, h4⟩
  · have e1 : t.gotOf x = [] := by
      unfold St.T.gotOf
      by_cases h0 : x < 0
      · rw [if_pos h0]
      · rw [if_neg h0, List.getElem?_eq_none (by omega)]
    rw [e1]
    rw [show decide (0 ≤ x ∧ x < t.acts.length) = false by simp; omega] at H
    clear h hx e1
    unfold numsPost
    go_enter Try.func24, Try.ntmps24
    go_wp2_with fail
    refine H.out.mono ?_
    rintro e w1 ⟨rfl, rfl⟩
    go_wp2
    go_ret
    exact ⟨none, 0, rfl, Nat.le_refl _, Nat.zero_le _, World.ownsRow_nil _ _ _ _, Below.refl _ _⟩
theorem AcIn_at {tv nv : Value} {a : St.Ac} (hT : TodoAt w A tv a.todo) (hN : PhAt w A nv a.next) {W : World} {b : Nat} (hl : b < W.heap.size) (c0 : W.cell? ⟨b, 0, none⟩ = some tv) (c1 : W.cell? ⟨b, 1, none⟩ = some nv) : Calls Try.prog 58 #[ptr b] W (same W (.bool a.isOver)) := by
  obtain ⟨td, nx, gt⟩ := a
  cases nx with
  | none =>
    obtain ⟨p, cap, e, -⟩ := hT
    have e2 : nv = .nilFunc := hN
    rw [e2] at c1
    rw [e] at c0
    have := isDone_nil (o := 0) p td.length cap hl c1 c0
    cases td with
    | nil => exact this
    | cons x l => exact this
  | some q =>
    obtain ⟨f, fi, ca, e⟩ := hN.fn
    rw [e] at c1
    have e5 : St.Ac.isOver ⟨td, some q, gt⟩ = false := by unfold St.Ac.isOver; rw [at_of_some]; rfl
    rw [e5]
    exact isDone_fn (o := 0) f fi ca hl c1
set_option maxRecDepth 100000 in
theorem f57_any {tv nv gv : Value} {a : St.Ac} (hT : TodoAt w A tv a.todo) (hN : PhAt w A nv a.next) (W : World) : Calls Try.prog 57 #[.agg #[tv, nv, gv]] W (still W (.bool (!a.isOver))) := by
  have H : Hid (∀ n, Calls Try.prog 58 #[ptr W.heap.size] ((W.alloc (.cells #[tv, nv, gv] 91)).drewN n) (same ((W.alloc (.cells #[tv, nv, gv] 91)).drewN n) (.bool a.isOver))) := Lib.hid fun n => by
    have hB := (Blk.new W #[tv, nv, gv] 91).drewN n
    exact AcIn_at hT hN hB.lt (hB.cell 0 _ rfl) (hB.cell 1 _ rfl)
  have H0 := Lib.hid (H.out 0)
  unfold same at H0
  unfold still
  clear hT hN
  go_enter Try.func57, Try.ntmps57
  go_wp2_with fail
  refine H0.out.mono ?_
  rintro e w1 ⟨rfl, rfl⟩
  go_wp2
  go_ret
  exact ⟨rfl, one _ _⟩
/-- Where the first actor is that is not done. -/
def firstOn : List St.Ac → Nat → Int
  | [], _ => -1
  | a :: l, i => if a.isOver then firstOn l (i + 1) else (i : Int)
set_option maxRecDepth 100000 in
set_option maxHeartbeats 1000000 in
theorem index_any (h : Rep w own rb cb ab vs cap t) : Calls Try.prog 78 #[.slice (some ⟨ab, 0, none⟩) t.acts.length cap, .func (.func 57) #[] #[]] w fun e w' => (∃ k, e = .returned (.int .i64 k) ∧ -1 ≤ k ∧ k ≤ 9 ∧ (0 ≤ k ↔ t.over = false)) ∧ Below w.heap.size w w' := by
  have HH := Lib.hid h
  have hn := h.n9
  obtain ⟨n, hnn⟩ : ∃ n, n = t.acts.length := ⟨_, rfl⟩
  have HN := Lib.hid hnn
  rw [← hnn] at hn ⊢
  have hla := h.blk.lt
  clear h hnn
  go_enter Try.func78, Try.ntmps78
  go_wp2_with fail
  go_loopw [8] (fun i wr => ∃ k : Nat, k ≤ n ∧ i = .int .i64 (k : Int) ∧ Hid (∀ (j : Nat) a, j < k → t.acts[j]? = some a → a.isOver = true) ∧ Hid (Below w.heap.size w wr)) (fun i _ => n - (intOf i).toNat)
  case atStart => exact ⟨0, Nat.zero_le _, rfl, Lib.hid (by intro j a hj; omega), Lib.hid (Below.refl _ _)⟩
  case round =>
    obtain ⟨k, hk, rfl, HJ, HB⟩ := hrel
    by_cases hlt : k < n
    · obtain ⟨a, ha⟩ : ∃ a, t.acts[k]? = some a := ⟨_, List.getElem?_eq_getElem (by have := HN.out; omega)⟩
      have hiv : k < vs.length := by have := HH.out.len; have := HN.out; omega
      obtain ⟨v, hv⟩ : ∃ v, vs[k]? = some v := ⟨_, List.getElem?_eq_getElem hiv⟩
      have hR := HH.out.below HB.out
      have c0 : wr.cell? ⟨ab, k * 3, none⟩ = some v.todo := hR.blk.cell _ _ (flat_get3 0 hv (by omega))
      have c1 : wr.cell? ⟨ab, k * 3 + 1, none⟩ = some v.next := hR.blk.cell _ _ (flat_get3 1 hv (by omega))
      have c2 : wr.cell? ⟨ab, k * 3 + 2, none⟩ = some v.got := hR.blk.cell _ _ (flat_get3 2 hv (by omega))
      have hlr := hR.blk.lt
      have C := Lib.hid (fun W => f57_any (gv := v.got) (hR.todo k v a hv ha) (hR.next k v a hv ha) W)
      have j1 : (k : Int) < (n : Int) := by omega
      have HA := Lib.hid ha
      unfold still at C
      obtain ⟨f1, f2, f3⟩ := v
      obtain ⟨tp, tc, et, -⟩ := hR.todo k _ a hv ha
      obtain ⟨gp, gc, eg, -⟩ := owns_form (hR.got k _ a hv ha)
      simp only at et eg c0 c1 c2 C
      rw [et] at c0 C
      rw [eg] at c2 C
      generalize a.todo.length = tl at *
      generalize a.got.length = gl at *
      clear hR ha hv et eg
      cases hov : a.isOver with
      | true =>
        rw [hov] at C
        have HOV := Lib.hid hov
        clear hov
        go_wp2_with fail
        refine (C.out _).mono ?_
        rintro e w2 ⟨rfl, hb⟩
        have HB2 := Lib.hid (HB.out.trans (hb.mono HB.out.size))
        clear hb
        go_wp2
        go_roundw
        case rel => exact ⟨k + 1, by omega, by go_num, Lib.hid (by
          intro j b hj hb
          by_cases hjk : j < k
          · exact HJ.out j b hjk hb
          · obtain rfl : j = k := by omega
            rw [HA.out] at hb; cases hb
            exact HOV.out), HB2⟩
        case measure => simp [intOf]; omega
      | false =>
        rw [hov] at C
        have HOV := Lib.hid hov
        clear hov
        go_wp2_with fail
        refine (C.out _).mono ?_
        rintro e w2 ⟨rfl, hb⟩
        have HB2 := Lib.hid (HB.out.trans (hb.mono HB.out.size))
        clear hb
        go_wp2
        go_ret
        refine ⟨⟨_, rfl, by omega, by omega, ⟨fun _ => ?_, fun _ => by omega⟩⟩, HB2.out⟩
        unfold St.T.over
        cases h : t.acts.all St.Ac.isOver with
        | false => rfl
        | true =>
          rw [List.all_eq_true] at h
          have := h a (List.mem_of_getElem? HA.out)
          rw [HOV.out] at this; cases this
    · obtain rfl : k = n := by omega
      go_wp2
      go_ret
      refine ⟨⟨_, rfl, by omega, by omega, ⟨fun hh => by omega, fun hh => ?_⟩⟩, HB.out⟩
      exfalso
      have : t.over = true := by
        unfold St.T.over
        rw [List.all_eq_true]
        intro b hb
        obtain ⟨j, hj⟩ := List.getElem?_of_mem hb
        exact HJ.out j b (by have := (List.getElem?_eq_some_iff.1 hj).1; have := HN.out; omega) hj
      rw [this] at hh; cases hh
end
end Go.Proofs.Ytajccigefoddiaa
