/- Taking a waiter out of the list. -/
import Derived.Test.YtlibkhndekgnfaaDoorRight
namespace Go.Proofs.YtlibkhndekgnfaaDoor
open Go.RowKit

/-- The first waiter that is right is taken out of the list: removeR. -/
def removeRPost (w : World) (b : Nat) (ns : List Nat) (c : Cn.St) (pr : Cn.Wt → Bool) (e : Ending) (w' : World) : Prop :=
  ∃ ns', (∀ x ∈ ns', x ∈ ns) ∧ Rep w' b ns' { c with wait := Cn.rest pr c.wait } ∧ Fr (b :: ns) w w' ∧ e = .returned (match Cn.pick pr c.wait with
    | some (x, _) => .tuple #[wtV x.t x.send x.v.k x.v.n x.v.s, .bool true]
    | none => .tuple #[wtV 0 false 0 0 noS, .bool false])

set_option maxRecDepth 100000 in
set_option maxHeartbeats 4000000 in
theorem removeR_any (b : Nat) (ns : List Nat) (c : Cn.St) (pr : Cn.Wt → Bool) (w : World)  (h : Rep w b ns c)
    (hcall : ∀ (x : Cn.Wt) (W : World), Below w.heap.size w W → Calls Tryd.prog 40 #[wtV x.t x.send x.v.k x.v.n x.v.s] W fun e W' => e = .returned (.bool (pr x)) ∧ Below W.heap.size W W') :
    Calls Tryd.prog 39 #[.pointer (some ⟨b, 53, none⟩), .func (.func 40) #[] #[]] w (removeRPost w b ns c pr) := by
  have hb := h.lt b (by simp)
  have hlen : ns.length = c.wait.length := h.chain.len
  have H := Lib.hid h
  have HC := Lib.hid hcall
  have HL := Lib.hid hlen
  clear h hcall hlen
  go_enter Tryd.func39, Tryd.ntmps39
  go_wp2_with fail
  go_loopw [6] (fun l wr => ∃ k : Nat, k ≤ ns.length ∧ l = .pointer (some (linkAt b ns k)) ∧ Below (w.heap.size + 1) (w.alloc (.cells #[.int .i64 0, .bool false, .int .i64 0, .int .i64 0, .string noS] 59)) wr ∧ Hid (∀ x ∈ c.wait.take k, pr x = false)) (fun l _ => ns.length - linkIdx b ns l)
  case atStart => exact ⟨0, Nat.zero_le _, rfl, Below.refl _ _, Lib.hid (by simp)⟩
  case round =>
    obtain ⟨k, hk, rfl, hB, hP⟩ := hrel
    have hBw : Below w.heap.size w wr := (one w _).trans (hB.mono (by omega))
    have hR := H.out.below hBw
    obtain ⟨lb, lo, hla, hcl, hfl, hlt, hne, hmem⟩ := hR.link hk
    have hz := hB.size
    rw [World.size_alloc] at hz
    obtain ⟨x0, x1, x2, x3, x4, y0, y1, y2, y3, y4, hz1⟩ := kept5 hB
    have HI := Lib.hid (linkIdx_at H.out.nd hk)
    have HA := Lib.hid hla
    have HB := Lib.hid hB
    clear hla hB hBw
    by_cases hkl : k < ns.length
    · obtain ⟨m, hm⟩ : ∃ m, ns[k]? = some m := ⟨_, List.getElem?_eq_getElem hkl⟩
      obtain ⟨x, hx⟩ : ∃ x, c.wait[k]? = some x := ⟨_, List.getElem?_eq_getElem (by rw [← HL.out]; exact hkl)⟩
      obtain ⟨n0, n1, n2, n3, n4, n5, hml⟩ := hR.chain.cells hm hx
      have hne' := hne m hm
      have hne2 : m ≠ lb := fun e => hne' e.symm
      have hmw : m < w.heap.size := H.out.lt m (by simp [List.mem_of_getElem? hm])
      have hlw : lb < w.heap.size := H.out.lt lb hmem
      rw [show ptrAt ns k = some ⟨m, 0, none⟩ by simp [ptrAt, hm]] at hcl
      have HR := Lib.hid hR
      have HM := Lib.hid hm
      have HX := Lib.hid hx
      have HMm := Lib.hid hmem
      have CC := Lib.hid (HC.out x)
      clear hne hR hm hx hmem
      cases hpx : pr x with
      | true =>
        rw [hpx] at CC
        rw [HA.out]
        go_wp2_with fail
        refine (CC.out _ ((one w _).trans (HB.out.mono (by omega)))).mono ?_
        rintro e w1 ⟨rfl, hb1⟩
        have q0 := cell_of hb1 hcl
        replace n0 := cell_of hb1 n0
        replace n1 := cell_of hb1 n1
        replace n2 := cell_of hb1 n2
        replace n3 := cell_of hb1 n3
        replace n4 := cell_of hb1 n4
        replace n5 := cell_of hb1 n5
        have qf := (hb1.frozen (p := ⟨lb, lo, none⟩) hlt).trans hfl
        have hB1 := HB.out.trans (hb1.mono hz)
        clear x0 x1 x2 x3 x4 y0 y1 y2 y3 y4 hz1
        obtain ⟨x0, x1, x2, x3, x4, y0, y1, y2, y3, y4, hz1⟩ := kept5 hB1
        have HR1 := Lib.hid (HR.out.below hb1)
        have HB1 := Lib.hid hB1
        have HK : Hid (Cn.pick pr c.wait = some (x, c.wait.eraseIdx k)) := Lib.hid (Cn.pick_some hP.out HX.out hpx)
        have g1 : lb ≠ w.heap.size := by omega
        have g2 : m ≠ w.heap.size := by omega
        clear hb1 hB1 hP hcl
        go_wp2
        refine bodyPost_ret (v := .tuple #[wtV x.t x.send x.v.k x.v.n x.v.s, .bool true]) (by simp [results, Tryd.results39, go_sem, x0, x1, x2, x3, x4, g1, g2]) rfl ?_
        refine ⟨ns.eraseIdx k, fun _ h => List.mem_of_mem_eraseIdx h, ?_, ?_, by rw [HK.out]⟩
        · have e1 : Cn.rest pr c.wait = c.wait.eraseIdx k := by simp [Cn.rest, HK.out]
          have e2 := HR1.out.unlink hkl
          rw [HA.out] at e2
          rw [e1]
          exact e2.fr (L := [w.heap.size]) (((((((Fr.refl _ _).set (.inl (by simp)) _ _).set (.inl (by simp)) _ _).set (.inl (by simp)) _ _).set (.inl (by simp)) _ _).set (.inl (by simp)) _ _))
            (fun y hy => by
              have hy' : y ∈ b :: ns := by
                rcases List.mem_cons.1 hy with h | h
                · simp [h]
                · simp [List.mem_of_mem_eraseIdx h]
              have := H.out.lt y hy'; simp; omega)
        · exact ((((((Fr.of_below ((one w _).trans (HB1.out.mono (by omega)))).set (.inl HMm.out) _ _).set (.inr (Nat.le_refl _)) _ _).set (.inr (Nat.le_refl _)) _ _).set (.inr (Nat.le_refl _)) _ _).set (.inr (Nat.le_refl _)) _ _).set (.inr (Nat.le_refl _)) _ _
      | false =>
        rw [hpx] at CC
        rw [HA.out]
        go_wp2_with fail
        refine (CC.out _ ((one w _).trans (HB.out.mono (by omega)))).mono ?_
        rintro e w1 ⟨rfl, hb1⟩
        have q0 := cell_of hb1 hcl
        have q5 := cell_of hb1 n5
        have HB1 := Lib.hid (HB.out.trans (hb1.mono hz))
        have HP1 : Hid (∀ y ∈ c.wait.take (k + 1), pr y = false) := Lib.hid fun y hy => by
          rw [List.take_succ_eq_append_getElem (by rw [← HL.out]; exact hkl)] at hy
          rcases List.mem_append.1 hy with hy | hy
          · exact hP.out y hy
          · have e1 : c.wait[k]? = some y := by rw [List.getElem?_eq_getElem (by rw [← HL.out]; exact hkl)]; simp at hy; rw [hy]
            rw [HX.out] at e1
            rw [← Option.some.inj e1]; exact hpx
        clear hb1
        go_wp2
        go_roundw
        case rel => exact ⟨k + 1, by omega, by simp [linkAt, HM.out], HB1.out, HP1⟩
        case measure =>
          have e1 := HI.out
          rw [HA.out] at e1
          have e2 := linkIdx_at H.out.nd (k := k + 1) (by omega)
          simp only [linkAt, HM.out, Option.getD_some] at e2
          simp only [e1, e2]
          omega
    · obtain rfl : k = ns.length := by omega
      rw [show ptrAt ns ns.length = none by simp [ptrAt]] at hcl
      have HP1 : Hid (Cn.pick pr c.wait = none) := Lib.hid (Cn.pick_none fun y hy => hP.out y (by rw [HL.out, List.take_length]; exact hy))
      rw [HA.out]
      have HR := Lib.hid hR
      clear hne hR hmem hP
      go_wp2
      refine bodyPost_ret (v := .tuple #[wtV 0 false 0 0 noS, .bool false]) (by simp [results, Tryd.results39, go_sem, x0, x1, x2, x3, x4]) rfl ?_
      refine ⟨ns, fun _ h => h, ?_, ?_, by rw [HP1.out]⟩
      · have e1 : Cn.rest pr c.wait = c.wait := by simp [Cn.rest, HP1.out]
        rw [e1]
        exact HR.out.fr (L := [w.heap.size]) (((((((Fr.refl _ _).set (.inl (by simp)) _ _).set (.inl (by simp)) _ _).set (.inl (by simp)) _ _).set (.inl (by simp)) _ _).set (.inl (by simp)) _ _)) (fun y hy => by have := H.out.lt y hy; simp; omega)
      · exact (((((Fr.of_below ((one w _).trans (HB.out.mono (by omega)))).set (.inr (Nat.le_refl _)) _ _).set (.inr (Nat.le_refl _)) _ _).set (.inr (Nat.le_refl _)) _ _).set (.inr (Nat.le_refl _)) _ _).set (.inr (Nat.le_refl _)) _ _

/-- The first waiter that is right is taken out of the list: removeS. -/
def removeSPost (w : World) (b : Nat) (ns : List Nat) (c : Cn.St) (pr : Cn.Wt → Bool) (e : Ending) (w' : World) : Prop :=
  ∃ ns', (∀ x ∈ ns', x ∈ ns) ∧ Rep w' b ns' { c with wait := Cn.rest pr c.wait } ∧ Fr (b :: ns) w w' ∧ e = .returned (match Cn.pick pr c.wait with
    | some (x, _) => .tuple #[wtV x.t x.send x.v.k x.v.n x.v.s, .bool true]
    | none => .tuple #[wtV 0 false 0 0 noS, .bool false])

set_option maxRecDepth 100000 in
set_option maxHeartbeats 4000000 in
theorem removeS_any (b : Nat) (ns : List Nat) (c : Cn.St) (pr : Cn.Wt → Bool) (w : World)  (h : Rep w b ns c)
    (hcall : ∀ (x : Cn.Wt) (W : World), Below w.heap.size w W → Calls Tryd.prog 42 #[wtV x.t x.send x.v.k x.v.n x.v.s] W fun e W' => e = .returned (.bool (pr x)) ∧ Below W.heap.size W W') :
    Calls Tryd.prog 39 #[.pointer (some ⟨b, 53, none⟩), .func (.func 42) #[] #[]] w (removeSPost w b ns c pr) := by
  have hb := h.lt b (by simp)
  have hlen : ns.length = c.wait.length := h.chain.len
  have H := Lib.hid h
  have HC := Lib.hid hcall
  have HL := Lib.hid hlen
  clear h hcall hlen
  go_enter Tryd.func39, Tryd.ntmps39
  go_wp2_with fail
  go_loopw [6] (fun l wr => ∃ k : Nat, k ≤ ns.length ∧ l = .pointer (some (linkAt b ns k)) ∧ Below (w.heap.size + 1) (w.alloc (.cells #[.int .i64 0, .bool false, .int .i64 0, .int .i64 0, .string noS] 59)) wr ∧ Hid (∀ x ∈ c.wait.take k, pr x = false)) (fun l _ => ns.length - linkIdx b ns l)
  case atStart => exact ⟨0, Nat.zero_le _, rfl, Below.refl _ _, Lib.hid (by simp)⟩
  case round =>
    obtain ⟨k, hk, rfl, hB, hP⟩ := hrel
    have hBw : Below w.heap.size w wr := (one w _).trans (hB.mono (by omega))
    have hR := H.out.below hBw
    obtain ⟨lb, lo, hla, hcl, hfl, hlt, hne, hmem⟩ := hR.link hk
    have hz := hB.size
    rw [World.size_alloc] at hz
    obtain ⟨x0, x1, x2, x3, x4, y0, y1, y2, y3, y4, hz1⟩ := kept5 hB
    have HI := Lib.hid (linkIdx_at H.out.nd hk)
    have HA := Lib.hid hla
    have HB := Lib.hid hB
    clear hla hB hBw
    by_cases hkl : k < ns.length
    · obtain ⟨m, hm⟩ : ∃ m, ns[k]? = some m := ⟨_, List.getElem?_eq_getElem hkl⟩
      obtain ⟨x, hx⟩ : ∃ x, c.wait[k]? = some x := ⟨_, List.getElem?_eq_getElem (by rw [← HL.out]; exact hkl)⟩
      obtain ⟨n0, n1, n2, n3, n4, n5, hml⟩ := hR.chain.cells hm hx
      have hne' := hne m hm
      have hne2 : m ≠ lb := fun e => hne' e.symm
      have hmw : m < w.heap.size := H.out.lt m (by simp [List.mem_of_getElem? hm])
      have hlw : lb < w.heap.size := H.out.lt lb hmem
      rw [show ptrAt ns k = some ⟨m, 0, none⟩ by simp [ptrAt, hm]] at hcl
      have HR := Lib.hid hR
      have HM := Lib.hid hm
      have HX := Lib.hid hx
      have HMm := Lib.hid hmem
      have CC := Lib.hid (HC.out x)
      clear hne hR hm hx hmem
      cases hpx : pr x with
      | true =>
        rw [hpx] at CC
        rw [HA.out]
        go_wp2_with fail
        refine (CC.out _ ((one w _).trans (HB.out.mono (by omega)))).mono ?_
        rintro e w1 ⟨rfl, hb1⟩
        have q0 := cell_of hb1 hcl
        replace n0 := cell_of hb1 n0
        replace n1 := cell_of hb1 n1
        replace n2 := cell_of hb1 n2
        replace n3 := cell_of hb1 n3
        replace n4 := cell_of hb1 n4
        replace n5 := cell_of hb1 n5
        have qf := (hb1.frozen (p := ⟨lb, lo, none⟩) hlt).trans hfl
        have hB1 := HB.out.trans (hb1.mono hz)
        clear x0 x1 x2 x3 x4 y0 y1 y2 y3 y4 hz1
        obtain ⟨x0, x1, x2, x3, x4, y0, y1, y2, y3, y4, hz1⟩ := kept5 hB1
        have HR1 := Lib.hid (HR.out.below hb1)
        have HB1 := Lib.hid hB1
        have HK : Hid (Cn.pick pr c.wait = some (x, c.wait.eraseIdx k)) := Lib.hid (Cn.pick_some hP.out HX.out hpx)
        have g1 : lb ≠ w.heap.size := by omega
        have g2 : m ≠ w.heap.size := by omega
        clear hb1 hB1 hP hcl
        go_wp2
        refine bodyPost_ret (v := .tuple #[wtV x.t x.send x.v.k x.v.n x.v.s, .bool true]) (by simp [results, Tryd.results39, go_sem, x0, x1, x2, x3, x4, g1, g2]) rfl ?_
        refine ⟨ns.eraseIdx k, fun _ h => List.mem_of_mem_eraseIdx h, ?_, ?_, by rw [HK.out]⟩
        · have e1 : Cn.rest pr c.wait = c.wait.eraseIdx k := by simp [Cn.rest, HK.out]
          have e2 := HR1.out.unlink hkl
          rw [HA.out] at e2
          rw [e1]
          exact e2.fr (L := [w.heap.size]) (((((((Fr.refl _ _).set (.inl (by simp)) _ _).set (.inl (by simp)) _ _).set (.inl (by simp)) _ _).set (.inl (by simp)) _ _).set (.inl (by simp)) _ _))
            (fun y hy => by
              have hy' : y ∈ b :: ns := by
                rcases List.mem_cons.1 hy with h | h
                · simp [h]
                · simp [List.mem_of_mem_eraseIdx h]
              have := H.out.lt y hy'; simp; omega)
        · exact ((((((Fr.of_below ((one w _).trans (HB1.out.mono (by omega)))).set (.inl HMm.out) _ _).set (.inr (Nat.le_refl _)) _ _).set (.inr (Nat.le_refl _)) _ _).set (.inr (Nat.le_refl _)) _ _).set (.inr (Nat.le_refl _)) _ _).set (.inr (Nat.le_refl _)) _ _
      | false =>
        rw [hpx] at CC
        rw [HA.out]
        go_wp2_with fail
        refine (CC.out _ ((one w _).trans (HB.out.mono (by omega)))).mono ?_
        rintro e w1 ⟨rfl, hb1⟩
        have q0 := cell_of hb1 hcl
        have q5 := cell_of hb1 n5
        have HB1 := Lib.hid (HB.out.trans (hb1.mono hz))
        have HP1 : Hid (∀ y ∈ c.wait.take (k + 1), pr y = false) := Lib.hid fun y hy => by
          rw [List.take_succ_eq_append_getElem (by rw [← HL.out]; exact hkl)] at hy
          rcases List.mem_append.1 hy with hy | hy
          · exact hP.out y hy
          · have e1 : c.wait[k]? = some y := by rw [List.getElem?_eq_getElem (by rw [← HL.out]; exact hkl)]; simp at hy; rw [hy]
            rw [HX.out] at e1
            rw [← Option.some.inj e1]; exact hpx
        clear hb1
        go_wp2
        go_roundw
        case rel => exact ⟨k + 1, by omega, by simp [linkAt, HM.out], HB1.out, HP1⟩
        case measure =>
          have e1 := HI.out
          rw [HA.out] at e1
          have e2 := linkIdx_at H.out.nd (k := k + 1) (by omega)
          simp only [linkAt, HM.out, Option.getD_some] at e2
          simp only [e1, e2]
          omega
    · obtain rfl : k = ns.length := by omega
      rw [show ptrAt ns ns.length = none by simp [ptrAt]] at hcl
      have HP1 : Hid (Cn.pick pr c.wait = none) := Lib.hid (Cn.pick_none fun y hy => hP.out y (by rw [HL.out, List.take_length]; exact hy))
      rw [HA.out]
      have HR := Lib.hid hR
      clear hne hR hmem hP
      go_wp2
      refine bodyPost_ret (v := .tuple #[wtV 0 false 0 0 noS, .bool false]) (by simp [results, Tryd.results39, go_sem, x0, x1, x2, x3, x4]) rfl ?_
      refine ⟨ns, fun _ h => h, ?_, ?_, by rw [HP1.out]⟩
      · have e1 : Cn.rest pr c.wait = c.wait := by simp [Cn.rest, HP1.out]
        rw [e1]
        exact HR.out.fr (L := [w.heap.size]) (((((((Fr.refl _ _).set (.inl (by simp)) _ _).set (.inl (by simp)) _ _).set (.inl (by simp)) _ _).set (.inl (by simp)) _ _).set (.inl (by simp)) _ _)) (fun y hy => by have := H.out.lt y hy; simp; omega)
      · exact (((((Fr.of_below ((one w _).trans (HB.out.mono (by omega)))).set (.inr (Nat.le_refl _)) _ _).set (.inr (Nat.le_refl _)) _ _).set (.inr (Nat.le_refl _)) _ _).set (.inr (Nat.le_refl _)) _ _).set (.inr (Nat.le_refl _)) _ _

/-- The first waiter that is right is taken out of the list: removeT. -/
def removeTPost (w : World) (b : Nat) (ns : List Nat) (c : Cn.St) (pr : Cn.Wt → Bool) (e : Ending) (w' : World) : Prop :=
  ∃ ns', (∀ x ∈ ns', x ∈ ns) ∧ Rep w' b ns' { c with wait := Cn.rest pr c.wait } ∧ Fr (b :: ns) w w' ∧ e = .returned (match Cn.pick pr c.wait with
    | some (x, _) => .tuple #[wtV x.t x.send x.v.k x.v.n x.v.s, .bool true]
    | none => .tuple #[wtV 0 false 0 0 noS, .bool false])

set_option maxRecDepth 100000 in
set_option maxHeartbeats 4000000 in
theorem removeT_any (b : Nat) (ns : List Nat) (c : Cn.St) (pr : Cn.Wt → Bool) (w : World) (B : Nat) (h : Rep w b ns c)
    (hcall : ∀ (x : Cn.Wt) (W : World), Below w.heap.size w W → Calls Tryd.prog 46 #[wtV x.t x.send x.v.k x.v.n x.v.s, .pointer (some ⟨B, 0, none⟩)] W fun e W' => e = .returned (.bool (pr x)) ∧ Below W.heap.size W W') :
    Calls Tryd.prog 39 #[.pointer (some ⟨b, 53, none⟩), .func (.func 46) #[] #[.pointer (some ⟨B, 0, none⟩)]] w (removeTPost w b ns c pr) := by
  have hb := h.lt b (by simp)
  have hlen : ns.length = c.wait.length := h.chain.len
  have H := Lib.hid h
  have HC := Lib.hid hcall
  have HL := Lib.hid hlen
  clear h hcall hlen
  go_enter Tryd.func39, Tryd.ntmps39
  go_wp2_with fail
  go_loopw [6] (fun l wr => ∃ k : Nat, k ≤ ns.length ∧ l = .pointer (some (linkAt b ns k)) ∧ Below (w.heap.size + 1) (w.alloc (.cells #[.int .i64 0, .bool false, .int .i64 0, .int .i64 0, .string noS] 59)) wr ∧ Hid (∀ x ∈ c.wait.take k, pr x = false)) (fun l _ => ns.length - linkIdx b ns l)
  case atStart => exact ⟨0, Nat.zero_le _, rfl, Below.refl _ _, Lib.hid (by simp)⟩
  case round =>
    obtain ⟨k, hk, rfl, hB, hP⟩ := hrel
    have hBw : Below w.heap.size w wr := (one w _).trans (hB.mono (by omega))
    have hR := H.out.below hBw
    obtain ⟨lb, lo, hla, hcl, hfl, hlt, hne, hmem⟩ := hR.link hk
    have hz := hB.size
    rw [World.size_alloc] at hz
    obtain ⟨x0, x1, x2, x3, x4, y0, y1, y2, y3, y4, hz1⟩ := kept5 hB
    have HI := Lib.hid (linkIdx_at H.out.nd hk)
    have HA := Lib.hid hla
    have HB := Lib.hid hB
    clear hla hB hBw
    by_cases hkl : k < ns.length
    · obtain ⟨m, hm⟩ : ∃ m, ns[k]? = some m := ⟨_, List.getElem?_eq_getElem hkl⟩
      obtain ⟨x, hx⟩ : ∃ x, c.wait[k]? = some x := ⟨_, List.getElem?_eq_getElem (by rw [← HL.out]; exact hkl)⟩
      obtain ⟨n0, n1, n2, n3, n4, n5, hml⟩ := hR.chain.cells hm hx
      have hne' := hne m hm
      have hne2 : m ≠ lb := fun e => hne' e.symm
      have hmw : m < w.heap.size := H.out.lt m (by simp [List.mem_of_getElem? hm])
      have hlw : lb < w.heap.size := H.out.lt lb hmem
      rw [show ptrAt ns k = some ⟨m, 0, none⟩ by simp [ptrAt, hm]] at hcl
      have HR := Lib.hid hR
      have HM := Lib.hid hm
      have HX := Lib.hid hx
      have HMm := Lib.hid hmem
      have CC := Lib.hid (HC.out x)
      clear hne hR hm hx hmem
      cases hpx : pr x with
      | true =>
        rw [hpx] at CC
        rw [HA.out]
        go_wp2_with fail
        refine (CC.out _ ((one w _).trans (HB.out.mono (by omega)))).mono ?_
        rintro e w1 ⟨rfl, hb1⟩
        have q0 := cell_of hb1 hcl
        replace n0 := cell_of hb1 n0
        replace n1 := cell_of hb1 n1
        replace n2 := cell_of hb1 n2
        replace n3 := cell_of hb1 n3
        replace n4 := cell_of hb1 n4
        replace n5 := cell_of hb1 n5
        have qf := (hb1.frozen (p := ⟨lb, lo, none⟩) hlt).trans hfl
        have hB1 := HB.out.trans (hb1.mono hz)
        clear x0 x1 x2 x3 x4 y0 y1 y2 y3 y4 hz1
        obtain ⟨x0, x1, x2, x3, x4, y0, y1, y2, y3, y4, hz1⟩ := kept5 hB1
        have HR1 := Lib.hid (HR.out.below hb1)
        have HB1 := Lib.hid hB1
        have HK : Hid (Cn.pick pr c.wait = some (x, c.wait.eraseIdx k)) := Lib.hid (Cn.pick_some hP.out HX.out hpx)
        have g1 : lb ≠ w.heap.size := by omega
        have g2 : m ≠ w.heap.size := by omega
        clear hb1 hB1 hP hcl
        go_wp2
        refine bodyPost_ret (v := .tuple #[wtV x.t x.send x.v.k x.v.n x.v.s, .bool true]) (by simp [results, Tryd.results39, go_sem, x0, x1, x2, x3, x4, g1, g2]) rfl ?_
        refine ⟨ns.eraseIdx k, fun _ h => List.mem_of_mem_eraseIdx h, ?_, ?_, by rw [HK.out]⟩
        · have e1 : Cn.rest pr c.wait = c.wait.eraseIdx k := by simp [Cn.rest, HK.out]
          have e2 := HR1.out.unlink hkl
          rw [HA.out] at e2
          rw [e1]
          exact e2.fr (L := [w.heap.size]) (((((((Fr.refl _ _).set (.inl (by simp)) _ _).set (.inl (by simp)) _ _).set (.inl (by simp)) _ _).set (.inl (by simp)) _ _).set (.inl (by simp)) _ _))
            (fun y hy => by
              have hy' : y ∈ b :: ns := by
                rcases List.mem_cons.1 hy with h | h
                · simp [h]
                · simp [List.mem_of_mem_eraseIdx h]
              have := H.out.lt y hy'; simp; omega)
        · exact ((((((Fr.of_below ((one w _).trans (HB1.out.mono (by omega)))).set (.inl HMm.out) _ _).set (.inr (Nat.le_refl _)) _ _).set (.inr (Nat.le_refl _)) _ _).set (.inr (Nat.le_refl _)) _ _).set (.inr (Nat.le_refl _)) _ _).set (.inr (Nat.le_refl _)) _ _
      | false =>
        rw [hpx] at CC
        rw [HA.out]
        go_wp2_with fail
        refine (CC.out _ ((one w _).trans (HB.out.mono (by omega)))).mono ?_
        rintro e w1 ⟨rfl, hb1⟩
        have q0 := cell_of hb1 hcl
        have q5 := cell_of hb1 n5
        have HB1 := Lib.hid (HB.out.trans (hb1.mono hz))
        have HP1 : Hid (∀ y ∈ c.wait.take (k + 1), pr y = false) := Lib.hid fun y hy => by
          rw [List.take_succ_eq_append_getElem (by rw [← HL.out]; exact hkl)] at hy
          rcases List.mem_append.1 hy with hy | hy
          · exact hP.out y hy
          · have e1 : c.wait[k]? = some y := by rw [List.getElem?_eq_getElem (by rw [← HL.out]; exact hkl)]; simp at hy; rw [hy]
            rw [HX.out] at e1
            rw [← Option.some.inj e1]; exact hpx
        clear hb1
        go_wp2
        go_roundw
        case rel => exact ⟨k + 1, by omega, by simp [linkAt, HM.out], HB1.out, HP1⟩
        case measure =>
          have e1 := HI.out
          rw [HA.out] at e1
          have e2 := linkIdx_at H.out.nd (k := k + 1) (by omega)
          simp only [linkAt, HM.out, Option.getD_some] at e2
          simp only [e1, e2]
          omega
    · obtain rfl : k = ns.length := by omega
      rw [show ptrAt ns ns.length = none by simp [ptrAt]] at hcl
      have HP1 : Hid (Cn.pick pr c.wait = none) := Lib.hid (Cn.pick_none fun y hy => hP.out y (by rw [HL.out, List.take_length]; exact hy))
      rw [HA.out]
      have HR := Lib.hid hR
      clear hne hR hmem hP
      go_wp2
      refine bodyPost_ret (v := .tuple #[wtV 0 false 0 0 noS, .bool false]) (by simp [results, Tryd.results39, go_sem, x0, x1, x2, x3, x4]) rfl ?_
      refine ⟨ns, fun _ h => h, ?_, ?_, by rw [HP1.out]⟩
      · have e1 : Cn.rest pr c.wait = c.wait := by simp [Cn.rest, HP1.out]
        rw [e1]
        exact HR.out.fr (L := [w.heap.size]) (((((((Fr.refl _ _).set (.inl (by simp)) _ _).set (.inl (by simp)) _ _).set (.inl (by simp)) _ _).set (.inl (by simp)) _ _).set (.inl (by simp)) _ _)) (fun y hy => by have := H.out.lt y hy; simp; omega)
      · exact (((((Fr.of_below ((one w _).trans (HB.out.mono (by omega)))).set (.inr (Nat.le_refl _)) _ _).set (.inr (Nat.le_refl _)) _ _).set (.inr (Nat.le_refl _)) _ _).set (.inr (Nat.le_refl _)) _ _).set (.inr (Nat.le_refl _)) _ _

end Go.Proofs.YtlibkhndekgnfaaDoor
