/- A call of a channel, and what it makes of it. -/
import Derived.Test.YtlibkhndekgnfaaDoorPark
import Derived.Test.YtlibkhndekgnfaaDoorOpArg
namespace Go.Proofs.YtlibkhndekgnfaaDoor
open Go.RowKit

def offer_bad_post (w : World) (e : Ending) (w' : World) : Prop := e = .returned (.tuple #[.slice none 0 0, faultV false, .bool false]) ∧ Below w.heap.size w w'
set_option maxRecDepth 100000 in
set_option maxHeartbeats 1000000 in
theorem offer_bad (b : Nat) (k n : Int) (s : ByteArray) (w : World) (hv : validB k n s = false) (hs : s.size ≤ 9223372036854775807) :
    Calls Tryd.prog 16 #[.pointer (some ⟨b, 0, none⟩), valV k n s] w (offer_bad_post w) := by
  have V := fun w => valid_any k n s w hs
  rw [hv] at V
  have VV := Lib.hid V
  clear V hv
  go_enter Tryd.func16, Tryd.ntmps16
  go_wp2_with fail
  refine (VV.out _).mono ?_
  rintro e w1 ⟨rfl, hb1⟩
  have hB1 : Below w.heap.size w w1 := ((one w _).trans ((one _ _).mono (by simp))).trans (hb1.mono (by simp; omega))
  have bF := (Blk.new (w.alloc (.cells #[.int .i64 k, .int .i64 n, .string s] 37)) #[.int .i64 0, .string noS] 45).below hb1 (by simp)
  rw [World.size_alloc] at bF
  have f0 : w1.cell? ⟨w.heap.size + 1, 0, none⟩ = some (.int .i64 0) := bF.cell 0 (by decide)
  have f1 : w1.cell? ⟨w.heap.size + 1, 1, none⟩ = some (.string noS) := bF.cell 1 (by decide)
  have z0 := bF.fz 0
  have z1 := bF.fz 1
  have hz := bF.lt
  have HB1 := Lib.hid hB1
  clear hb1 hB1 bF
  go_wp2
  refine bodyPost_ret (v := .tuple #[.slice none 0 0, faultV false, .bool false]) (by simp [results, Tryd.results16, go_sem, f0, f1]) rfl ?_
  exact ⟨rfl, ((HB1.out.setCell (p := ⟨w.heap.size + 1, 0, none⟩) (by show w.heap.size ≤ w.heap.size + 1; omega) _).setCell (p := ⟨w.heap.size + 1, 1, none⟩) (by show w.heap.size ≤ w.heap.size + 1; omega) _)⟩

def err_post (w : World) (e : Ending) (w' : World) : Prop := e = .returned (.int .i64 2) ∧ Below w.heap.size w w'
set_option maxRecDepth 100000 in
set_option maxHeartbeats 1000000 in
theorem park_low (b : Nat) (t : Int) (sd : Bool) (k n : Int) (s : ByteArray) (w : World) (ht : t < 1) :
    Calls Tryd.prog 18 #[.pointer (some ⟨b, 0, none⟩), .int .i64 t, .bool sd, valV k n s] w (err_post w) := by
  have hd : decide (t < 1) = true := by simpa using ht
  go_enter Tryd.func18, Tryd.ntmps18
  go_wp2
  all_goals refine bodyPost_ret (v := .int .i64 2) (by simp [results, Tryd.results18, go_sem]) rfl ?_
  all_goals exact ⟨rfl, ((one _ _).trans ((one _ _).mono (by simp))).trans ((one _ _).mono (by simp; omega))⟩
set_option maxRecDepth 100000 in
set_option maxHeartbeats 1000000 in
theorem park_bad (b : Nat) (t : Int) (k n : Int) (s : ByteArray) (w : World) (ht : 1 ≤ t) (hv : validB k n s = false) (hs : s.size ≤ 9223372036854775807) :
    Calls Tryd.prog 18 #[.pointer (some ⟨b, 0, none⟩), .int .i64 t, .bool true, valV k n s] w (err_post w) := by
  have hd : decide (t < 1) = false := by simp only [decide_eq_false_iff_not]; omega
  have V := fun w => valid_any k n s w hs
  rw [hv] at V
  have VV := Lib.hid V
  clear V hv
  go_enter Tryd.func18, Tryd.ntmps18
  go_wp2_with fail
  refine (VV.out _).mono ?_
  rintro e w1 ⟨rfl, hb1⟩
  have hB1 : Below w.heap.size w w1 := (((one _ _).trans ((one _ _).mono (by simp))).trans ((one _ _).mono (by simp; omega))).trans (hb1.mono (by simp; omega))
  have b8 := (Blk.new ((w.alloc (.cells #[.int .i64 t] 3)).alloc (.cells #[.int .i64 k, .int .i64 n, .string s] 37)) #[.int .i64 0] 24).below hb1 (by simp)
  simp only [World.size_alloc] at b8
  have r8 : w1.cell? ⟨w.heap.size + 1 + 1, 0, none⟩ = some (.int .i64 0) := b8.cell 0 (by decide)
  have z8 := b8.fz 0
  have hz := b8.lt
  have HB1 := Lib.hid hB1
  clear hb1 hB1 b8
  go_wp2
  refine bodyPost_ret (v := .int .i64 2) (by simp [results, Tryd.results18, go_sem, r8]) rfl ?_
  exact ⟨rfl, HB1.out.setCell (p := ⟨w.heap.size + 1 + 1, 0, none⟩) (by show w.heap.size ≤ w.heap.size + 1 + 1; omega) _⟩

/-- What a call makes of a channel. -/
def step (c : Cn.St) (o : Op) : Cn.St :=
  if o.kd = 0 then (if validB o.v.k o.v.n o.v.s then (Cn.offer c o.v).1 else c)
  else if o.kd = 1 then (Cn.take c).1
  else if o.kd = 2 then (if o.t < 1 ∨ (o.send = true ∧ validB o.v.k o.v.n o.v.s = false) then c else (park c o.t o.send o.v).1)
  else if o.kd = 3 then { c with wait := Cn.rest (fun x => x.t == o.t) c.wait }
  else if o.kd = 4 then (if c.closed then c else { c with closed := true, wait := [] })
  else c

/-- A channel in memory, whose blocks were made after a world. -/
structure Own (w0 : World) (w : World) (b : Nat) (ns : List Nat) (c : Cn.St) : Prop where
  rep : Rep w b ns c
  ge : ∀ x ∈ b :: ns, w0.heap.size ≤ x
  env : Env w
  pos : 0 < w0.heap.size
  wl : c.wait.length ≤ 200
  dr : c.dropped < 4611686018427387000

/-- A call leaves a channel, and nothing else. -/
def stepPost (w : World) (b : Nat) (ns : List Nat) (c : Cn.St) (w' : World) : Prop := ∃ ns', (∀ x ∈ ns', x ∈ ns ∨ w.heap.size ≤ x) ∧ Rep w' b ns' c ∧ Fr (b :: ns) w w'

theorem step_offer {w : World} {b : Nat} {ns : List Nat} {c : Cn.St} {k n : Int} {s : ByteArray} {e : Ending} {w' : World} (h : offerPost w b ns c ⟨k, n, s⟩ e w') : stepPost w b ns (Cn.offer c ⟨k, n, s⟩).1 w' :=
  have ⟨ns', _, hs, _, _, hR, hF⟩ := h
  ⟨ns', fun x hx => .inl (hs x hx), hR, hF⟩
theorem step_take {w : World} {b : Nat} {ns : List Nat} {c : Cn.St} {e : Ending} {w' : World} (h : takeFPost w b ns c e w') : stepPost w b ns (Cn.take c).1 w' :=
  have ⟨ns', _, hs, _, _, hR, hF⟩ := h
  ⟨ns', fun x hx => .inl (hs x hx), hR, hF⟩
theorem step_same {w : World} {b : Nat} {ns : List Nat} {c : Cn.St} {w' : World} (h : Rep w b ns c) (hb : Below w.heap.size w w') : stepPost w b ns c w' :=
  ⟨ns, fun x hx => .inl hx, h.below hb, Fr.of_below hb⟩
theorem stepPost.box {w : World} {b : Nat} {ns : List Nat} {c : Cn.St} {w' : World} {o : Obj} (h : stepPost (w.alloc o) b ns c w') : stepPost w b ns c w' := by
  obtain ⟨ns', hs, hR, hF⟩ := h
  exact ⟨ns', fun x hx => (hs x hx).imp id (fun h => by simp at h; omega), hR, ((Fr.refl _ _).alloc _).trans hF⟩

def runPost (w : World) (b : Nat) (ns : List Nat) (c : Cn.St) (e : Ending) (w' : World) : Prop := e = .returned (.tuple #[]) ∧ stepPost w b ns c w'

set_option maxRecDepth 100000 in
set_option maxHeartbeats 4000000 in
theorem run_any (b : Nat) (ns : List Nat) (c : Cn.St) (kd t : Int) (sd : Bool) (k n : Int) (s : ByteArray) (w : World) (h : Rep w b ns c) (henv : Env w) (hpos : ∀ x ∈ b :: ns, 0 < x) (hs : s.size ≤ 9223372036854775807) (hw : c.wait.length ≤ 200) (hd : c.dropped < 4611686018427387000) :
    Calls Tryd.prog 22 #[.pointer (some ⟨b, 0, none⟩), .agg #[.int .i64 kd, .int .i64 t, .bool sd, .int .i64 k, .int .i64 n, .string s]] w (runPost w b ns (step c ⟨kd, t, sd, ⟨k, n, s⟩⟩)) := by
  have h0 := h.alloc (.cells #[.int .i64 kd, .int .i64 t, .bool sd, .int .i64 k, .int .i64 n, .string s] 39)
  have e0 := henv.below (one w (.cells #[.int .i64 kd, .int .i64 t, .bool sd, .int .i64 k, .int .i64 n, .string s] 39))
  unfold step
  by_cases k0 : kd = 0
  · subst k0
    rw [if_pos rfl]
    cases hv : validB k n s with
    | false =>
      have OO := Lib.hid (offer_bad b k n s (w.alloc (.cells #[.int .i64 0, .int .i64 t, .bool sd, .int .i64 k, .int .i64 n, .string s] 39)) hv hs)
      have H0 := Lib.hid h0
      clear h0 e0 h henv hpos hv
      go_enter Tryd.func22, Tryd.ntmps22
      go_wp2_with fail
      refine OO.out.mono ?_
      rintro e w1 ⟨rfl, hb1⟩
      have HS := Lib.hid (stepPost.box (step_same H0.out hb1))
      clear hb1
      go_wp2
      go_end0
      exact ⟨rfl, HS.out⟩
    | true =>
      have OO := Lib.hid (offer_any b ns c k n s (w.alloc (.cells #[.int .i64 0, .int .i64 t, .bool sd, .int .i64 k, .int .i64 n, .string s] 39)) h0 e0 hv hs (by omega))
      clear h0 e0 h henv hpos hv
      go_enter Tryd.func22, Tryd.ntmps22
      go_wp2_with fail
      refine OO.out.mono ?_
      rintro e w1 hp
      have HS := Lib.hid (stepPost.box (step_offer hp))
      obtain ⟨ns', dv, -, rfl, -⟩ := hp
      go_wp2
      go_end0
      exact ⟨rfl, HS.out⟩
  rw [if_neg k0]
  by_cases k1 : kd = 1
  · subst k1
    rw [if_pos rfl]
    have OO := Lib.hid (take_any b ns c (w.alloc (.cells #[.int .i64 1, .int .i64 t, .bool sd, .int .i64 k, .int .i64 n, .string s] 39)) h0 e0 hpos)
    clear h0 e0 h henv hpos k0
    go_enter Tryd.func22, Tryd.ntmps22
    go_wp2_with fail
    refine OO.out.mono ?_
    rintro e w1 hp
    have HS := Lib.hid (stepPost.box (step_take hp))
    obtain ⟨ns', dv, -, rfl, -⟩ := hp
    go_wp2
    go_end0
    exact ⟨rfl, HS.out⟩
  rw [if_neg k1]
  by_cases k2 : kd = 2
  · subst k2
    rw [if_pos rfl]
    by_cases ht : t < 1
    · rw [if_pos (.inl ht)]
      have OO := Lib.hid (park_low b t sd k n s (w.alloc (.cells #[.int .i64 2, .int .i64 t, .bool sd, .int .i64 k, .int .i64 n, .string s] 39)) ht)
      have H0 := Lib.hid h0
      clear h0 e0 h henv hpos k0 k1
      go_enter Tryd.func22, Tryd.ntmps22
      go_wp2_with fail
      refine OO.out.mono ?_
      rintro e w1 ⟨rfl, hb1⟩
      have HS := Lib.hid (stepPost.box (step_same H0.out hb1))
      clear hb1
      go_wp2
      go_end0
      exact ⟨rfl, HS.out⟩
    · cases sd with
      | false =>
        rw [if_neg (by simp; omega)]
        have OO := Lib.hid ((callsIn_wide (n := 4)).1 (parkfalse_in 4 (by omega) b ns c t k n s (w.alloc (.cells #[.int .i64 2, .int .i64 t, .bool false, .int .i64 k, .int .i64 n, .string s] 39)) h0 (by omega) (by omega)))
        clear h0 e0 h henv hpos k0 k1
        go_enter Tryd.func22, Tryd.ntmps22
        go_wp2_with fail
        refine OO.out.mono ?_
        rintro e w1 ⟨ns', hs', rfl, hR, hF⟩
        have HS := Lib.hid (stepPost.box ⟨ns', hs', hR, hF⟩)
        clear hs' hR hF
        go_wp2
        go_end0
        exact ⟨rfl, HS.out⟩
      | true =>
        cases hv : validB k n s with
        | false =>
          rw [if_pos (.inr ⟨rfl, rfl⟩)]
          have OO := Lib.hid (park_bad b t k n s (w.alloc (.cells #[.int .i64 2, .int .i64 t, .bool true, .int .i64 k, .int .i64 n, .string s] 39)) (by omega) hv hs)
          have H0 := Lib.hid h0
          clear h0 e0 h henv hpos k0 k1 hv
          go_enter Tryd.func22, Tryd.ntmps22
          go_wp2_with fail
          refine OO.out.mono ?_
          rintro e w1 ⟨rfl, hb1⟩
          have HS := Lib.hid (stepPost.box (step_same H0.out hb1))
          clear hb1
          go_wp2
          go_end0
          exact ⟨rfl, HS.out⟩
        | true =>
          rw [if_neg (by simp; omega)]
          have OO := Lib.hid ((callsIn_wide (n := 4)).1 (parktrue_in 4 (by omega) b ns c t k n s (w.alloc (.cells #[.int .i64 2, .int .i64 t, .bool true, .int .i64 k, .int .i64 n, .string s] 39)) h0 (by omega) hv hs (by omega)))
          clear h0 e0 h henv hpos k0 k1 hv
          go_enter Tryd.func22, Tryd.ntmps22
          go_wp2_with fail
          refine OO.out.mono ?_
          rintro e w1 ⟨ns', hs', rfl, hR, hF⟩
          have HS := Lib.hid (stepPost.box ⟨ns', hs', hR, hF⟩)
          clear hs' hR hF
          go_wp2
          go_end0
          exact ⟨rfl, HS.out⟩
  rw [if_neg k2]
  by_cases k3 : kd = 3
  · subst k3
    rw [if_pos rfl]
    have OO := Lib.hid (withdraw_any b ns c t (w.alloc (.cells #[.int .i64 3, .int .i64 t, .bool sd, .int .i64 k, .int .i64 n, .string s] 39)) h0)
    clear h0 e0 h henv hpos k0 k1 k2
    go_enter Tryd.func22, Tryd.ntmps22
    go_wp2_with fail
    refine OO.out.mono ?_
    rintro e w1 ⟨ns', hs', rfl, hR, hF⟩
    have HS := Lib.hid (stepPost.box ⟨ns', fun x hx => .inl (hs' x hx), hR, hF⟩)
    clear hs' hR hF
    go_wp2
    go_end0
    exact ⟨rfl, HS.out⟩
  rw [if_neg k3]
  by_cases k4 : kd = 4
  · subst k4
    rw [if_pos rfl]
    cases hc : c.closed with
    | true =>
      rw [if_pos rfl]
      have OO := Lib.hid (close_closed b ns c (w.alloc (.cells #[.int .i64 4, .int .i64 t, .bool sd, .int .i64 k, .int .i64 n, .string s] 39)) h0 hc)
      have H0 := Lib.hid h0
      clear h0 e0 h henv hpos k0 k1 k2 k3
      go_enter Tryd.func22, Tryd.ntmps22
      go_wp2_with fail
      refine OO.out.mono ?_
      rintro e w1 ⟨rfl, rfl⟩
      have HS := Lib.hid (stepPost.box (step_same H0.out (Below.refl _ _)))
      go_wp2
      go_end0
      exact ⟨rfl, HS.out⟩
    | false =>
      rw [if_neg (by simp)]
      have OO := Lib.hid (close_any b ns c (w.alloc (.cells #[.int .i64 4, .int .i64 t, .bool sd, .int .i64 k, .int .i64 n, .string s] 39)) h0 e0 hc (by omega))
      clear h0 e0 h henv hpos k0 k1 k2 k3
      go_enter Tryd.func22, Tryd.ntmps22
      go_wp2_with fail
      refine OO.out.mono ?_
      rintro e w1 ⟨dv, rfl, -, hR, hF⟩
      have HS := Lib.hid (stepPost.box (ns := ns) ⟨[], fun x hx => by simp at hx, hR, hF.widen (by simp)⟩)
      clear hR hF
      go_wp2
      go_end0
      exact ⟨rfl, HS.out⟩
  rw [if_neg k4]
  have H0 := Lib.hid h0
  clear h0 e0 h henv hpos
  have j0 : (kd == 0) = false := by simpa using k0
  have j1 : (kd == 1) = false := by simpa using k1
  have j2 : (kd == 2) = false := by simpa using k2
  have j3 : (kd == 3) = false := by simpa using k3
  have j4 : (kd == 4) = false := by simpa using k4
  clear k0 k1 k2 k3 k4
  go_enter Tryd.func22, Tryd.ntmps22
  go_wp2
  go_end0
  exact ⟨rfl, stepPost.box (step_same H0.out (Below.refl _ _))⟩
end Go.Proofs.YtlibkhndekgnfaaDoor
