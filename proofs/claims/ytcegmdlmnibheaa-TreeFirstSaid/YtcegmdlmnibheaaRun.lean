/- What run and told do: a statement's call. -/
import Derived.Test.YtcegmdlmnibheaaSpawn
import Derived.Test.YtcegmdlmnibheaaOpen
import Derived.Test.YtcegmdlmnibheaaShield
import Derived.Test.YtcegmdlmnibheaaEnd4
import Derived.Test.YtcegmdlmnibheaaLeave
import Derived.Test.YtcegmdlmnibheaaNew
import Derived.Test.YtcegmdlmnibheaaOps
namespace Go.Proofs.Ytcegmdlmnibheaa
set_option linter.unusedVariables false
set_option linter.unusedSimpArgs false
open Go.RowKit
/-- A statement's call: the tree behind it, its effects, has it no error (End, Leave and Fail alone say so)? -/
def Tr.step (t : Tr.T) (o : Op) : Tr.T × List Tr.E × Bool :=
  if o.kd = 0 then ((Tr.open_ t o.n o.yes).1, [], true)
  else if o.kd = 1 then ((Tr.spawn t o.n).1, [], true)
  else if o.kd = 2 then ((Tr.end_ t o.n o.f).1, (Tr.end_ t o.n o.f).2.1, decide ((Tr.end_ t o.n o.f).2.2 = 0))
  else if o.kd = 3 then ((Tr.leave t o.n o.f).1, (Tr.leave t o.n o.f).2.1, decide ((Tr.leave t o.n o.f).2.2 = 0))
  else if o.kd = 4 then ((Tr.shield t o.n).1, [], true)
  else if o.kd = 5 then ((Tr.unveil t o.n).1, [], true)
  else if o.kd = 6 then ((Tr.fail t o.n o.f).1, (Tr.fail t o.n o.f).2.1, decide ((Tr.fail t o.n o.f).2.2 = 0))
  else if o.kd = 7 then ((Tr.root t).1, [], true)
  else (t, [], true)
theorem Lim.step {t : Tr.T} (h : Lim t) (o : Op) : Lim (Tr.step t o).1 := by
  unfold Tr.step
  repeat' split
  · exact h.open_ _ _
  · exact h.spawn _
  · exact h.end_ _ _
  · exact h.leave _ _
  · exact h.shield _
  · exact h.unveil _
  · exact h.fail _ _
  · exact h.add none
  · exact h
def runPost (w : World) (own : Own) (tb : Nat) (r : Tr.T × List Tr.E × Bool) (e : Ending) (w' : World) : Prop :=
  ∃ p cap, e = .returned (.slice p r.2.1.length cap) ∧ GoneE w own tb r.1 r.2.1 (.slice p r.2.1.length cap) w'
def toldPost (w : World) (own : Own) (tb : Nat) (r : Tr.T × List Tr.E × Bool) (e : Ending) (w' : World) : Prop :=
  ∃ p cap, e = .returned (.tuple #[.slice p r.2.1.length cap, .bool r.2.2]) ∧ GoneE w own tb r.1 r.2.1 (.slice p r.2.1.length cap) w'
section
variable {w : World} {own : Own} {tb : Nat} {L : Lay} {t : Tr.T}
theorem GoneE.from_ {w1 w2 : World} {es : List Tr.E} {v : Value} (hb : Below w.heap.size w w1) (h : GoneE w1 own tb t es v w2) : GoneE w own tb t es v w2 := by
  obtain ⟨o, M, h1, h2, h3, h4, h5⟩ := h
  refine ⟨o, M, h1, fun k hk => h2 k (by have := hb.size; omega), (Fr.of_below hb).trans h3, ⟨h4.1, ?_⟩, h5⟩
  rcases h4.2 with e0 | ⟨g, c0, cur, e1, hg, r⟩
  · exact .inl e0
  · exact .inr ⟨g, c0, cur, e1, by have := hb.size; omega, r⟩
theorem Gone.from_ {w1 w2 : World} (hb : Below w.heap.size w w1) (h : Gone w1 own tb t w2) : Gone w own tb t w2 := by
  obtain ⟨o, M, h1, h2, h3⟩ := h
  exact ⟨o, M, h1, fun k hk => h2 k (by have := hb.size; omega), (Fr.of_below hb).trans h3⟩
theorem run_none {w1 w2 : World} (hb : Below w.heap.size w w1) (h : Gone w1 own tb t w2) {b : Bool} : runPost w own tb (t, [], b) (.returned (.slice none 0 0)) w2 := ⟨none, 0, rfl, (h.from_ hb).noE⟩
set_option maxRecDepth 100000 in
set_option maxHeartbeats 4000000 in
theorem run_0 (h : Rep w own tb L t) (hl : Lim t) (o : Op) (hs : o.f.s.size ≤ 9223372036854775807) (hk : o.kd = 0) : Calls Try.prog 36 #[ptr tb, opV o] w (runPost w own tb (Tr.step t o)) := by
  have A : Hid (∀ x, Calls Try.prog 16 #[ptr tb, .int .i64 o.n, .bool o.yes] (w.alloc x) (goneII (w.alloc x) own tb (Tr.open_ t o.n o.yes))) := Lib.hid fun x => open_any (h.below (one _ _)) hl o.n o.yes
  unfold Tr.step
  simp only [hk, if_pos, if_neg, reduceIte, Int.reduceEq]
  unfold opV
  rw [hk]
  unfold goneII at A
  obtain ⟨r, hr⟩ : ∃ r, r = (Tr.open_ t o.n o.yes) := ⟨_, rfl⟩
  rw [← hr] at A ⊢
  clear h hl hk hr hs
  go_enter Try.func36, Try.ntmps36
  go_wp2_with fail
  refine (A.out _).mono ?_
  rintro e w2 ⟨rfl, hG⟩
  have HG := Lib.hid (run_none (b := true) (one w _) hG)
  clear hG A
  go_wp2
  go_ret
  exact HG.out
set_option maxRecDepth 100000 in
set_option maxHeartbeats 4000000 in
theorem run_1 (h : Rep w own tb L t) (hl : Lim t) (o : Op) (hs : o.f.s.size ≤ 9223372036854775807) (hk : o.kd = 1) : Calls Try.prog 36 #[ptr tb, opV o] w (runPost w own tb (Tr.step t o)) := by
  have A : Hid (∀ x, Calls Try.prog 17 #[ptr tb, .int .i64 o.n] (w.alloc x) (goneII (w.alloc x) own tb (Tr.spawn t o.n))) := Lib.hid fun x => spawn_any (h.below (one _ _)) hl o.n
  unfold Tr.step
  simp only [hk, if_pos, if_neg, reduceIte, Int.reduceEq]
  unfold opV
  rw [hk]
  unfold goneII at A
  obtain ⟨r, hr⟩ : ∃ r, r = (Tr.spawn t o.n) := ⟨_, rfl⟩
  rw [← hr] at A ⊢
  clear h hl hk hr hs
  go_enter Try.func36, Try.ntmps36
  go_wp2_with fail
  refine (A.out _).mono ?_
  rintro e w2 ⟨rfl, hG⟩
  have HG := Lib.hid (run_none (b := true) (one w _) hG)
  clear hG A
  go_wp2
  go_ret
  exact HG.out
set_option maxRecDepth 100000 in
set_option maxHeartbeats 4000000 in
theorem run_2 (h : Rep w own tb L t) (hl : Lim t) (o : Op) (hs : o.f.s.size ≤ 9223372036854775807) (hk : o.kd = 2) : Calls Try.prog 36 #[ptr tb, opV o] w (runPost w own tb (Tr.step t o)) := by
  have A : Hid (∀ x, Calls Try.prog 18 #[ptr tb, .int .i64 o.n, flV o.f] (w.alloc x) (goneE (w.alloc x) own tb (Tr.end_ t o.n o.f))) := Lib.hid fun x => end_any (h.below (one _ _)) hl o.n o.f hs
  unfold Tr.step
  simp only [hk, if_pos, if_neg, reduceIte, Int.reduceEq]
  unfold opV
  rw [hk]
  unfold goneE at A
  unfold flV at A
  obtain ⟨r, hr⟩ : ∃ r, r = (Tr.end_ t o.n o.f) := ⟨_, rfl⟩
  rw [← hr] at A ⊢
  clear h hl hk hr hs
  go_enter Try.func36, Try.ntmps36
  go_wp2_with fail
  refine (A.out _).mono ?_
  rintro e w2 ⟨p, cap, rfl, hG⟩
  have HG := Lib.hid (GoneE.from_ (one w _) hG)
  clear hG A
  go_wp2
  go_ret
  exact ⟨p, cap, rfl, HG.out⟩
set_option maxRecDepth 100000 in
set_option maxHeartbeats 4000000 in
theorem run_3 (h : Rep w own tb L t) (hl : Lim t) (o : Op) (hs : o.f.s.size ≤ 9223372036854775807) (hk : o.kd = 3) : Calls Try.prog 36 #[ptr tb, opV o] w (runPost w own tb (Tr.step t o)) := by
  have A : Hid (∀ x, Calls Try.prog 19 #[ptr tb, .int .i64 o.n, flV o.f] (w.alloc x) (goneE (w.alloc x) own tb (Tr.leave t o.n o.f))) := Lib.hid fun x => leave_any (h.below (one _ _)) hl o.n o.f hs
  unfold Tr.step
  simp only [hk, if_pos, if_neg, reduceIte, Int.reduceEq]
  unfold opV
  rw [hk]
  unfold goneE at A
  unfold flV at A
  obtain ⟨r, hr⟩ : ∃ r, r = (Tr.leave t o.n o.f) := ⟨_, rfl⟩
  rw [← hr] at A ⊢
  clear h hl hk hr hs
  go_enter Try.func36, Try.ntmps36
  go_wp2_with fail
  refine (A.out _).mono ?_
  rintro e w2 ⟨p, cap, rfl, hG⟩
  have HG := Lib.hid (GoneE.from_ (one w _) hG)
  clear hG A
  go_wp2
  go_ret
  exact ⟨p, cap, rfl, HG.out⟩
set_option maxRecDepth 100000 in
set_option maxHeartbeats 4000000 in
theorem run_4 (h : Rep w own tb L t) (hl : Lim t) (o : Op) (hs : o.f.s.size ≤ 9223372036854775807) (hk : o.kd = 4) : Calls Try.prog 36 #[ptr tb, opV o] w (runPost w own tb (Tr.step t o)) := by
  have A : Hid (∀ x, Calls Try.prog 26 #[ptr tb, .int .i64 o.n] (w.alloc x) (goneI (w.alloc x) own tb (Tr.shield t o.n))) := Lib.hid fun x => shield_any (h.below (one _ _)) hl o.n
  unfold Tr.step
  simp only [hk, if_pos, if_neg, reduceIte, Int.reduceEq]
  unfold opV
  rw [hk]
  unfold goneI at A
  obtain ⟨r, hr⟩ : ∃ r, r = (Tr.shield t o.n) := ⟨_, rfl⟩
  rw [← hr] at A ⊢
  clear h hl hk hr hs
  go_enter Try.func36, Try.ntmps36
  go_wp2_with fail
  refine (A.out _).mono ?_
  rintro e w2 ⟨rfl, hG⟩
  have HG := Lib.hid (run_none (b := true) (one w _) hG)
  clear hG A
  go_wp2
  go_ret
  exact HG.out
set_option maxRecDepth 100000 in
set_option maxHeartbeats 4000000 in
theorem run_5 (h : Rep w own tb L t) (hl : Lim t) (o : Op) (hs : o.f.s.size ≤ 9223372036854775807) (hk : o.kd = 5) : Calls Try.prog 36 #[ptr tb, opV o] w (runPost w own tb (Tr.step t o)) := by
  have A : Hid (∀ x, Calls Try.prog 27 #[ptr tb, .int .i64 o.n] (w.alloc x) (goneI (w.alloc x) own tb (Tr.unveil t o.n))) := Lib.hid fun x => unveil_any (h.below (one _ _)) o.n
  unfold Tr.step
  simp only [hk, if_pos, if_neg, reduceIte, Int.reduceEq]
  unfold opV
  rw [hk]
  unfold goneI at A
  obtain ⟨r, hr⟩ : ∃ r, r = (Tr.unveil t o.n) := ⟨_, rfl⟩
  rw [← hr] at A ⊢
  clear h hl hk hr hs
  go_enter Try.func36, Try.ntmps36
  go_wp2_with fail
  refine (A.out _).mono ?_
  rintro e w2 ⟨rfl, hG⟩
  have HG := Lib.hid (run_none (b := true) (one w _) hG)
  clear hG A
  go_wp2
  go_ret
  exact HG.out
set_option maxRecDepth 100000 in
set_option maxHeartbeats 4000000 in
theorem run_6 (h : Rep w own tb L t) (hl : Lim t) (o : Op) (hs : o.f.s.size ≤ 9223372036854775807) (hk : o.kd = 6) : Calls Try.prog 36 #[ptr tb, opV o] w (runPost w own tb (Tr.step t o)) := by
  have A : Hid (∀ x, Calls Try.prog 20 #[ptr tb, .int .i64 o.n, flV o.f] (w.alloc x) (goneE (w.alloc x) own tb (Tr.fail t o.n o.f))) := Lib.hid fun x => fail_any (h.below (one _ _)) o.n o.f hs
  unfold Tr.step
  simp only [hk, if_pos, if_neg, reduceIte, Int.reduceEq]
  unfold opV
  rw [hk]
  unfold goneE at A
  unfold flV at A
  obtain ⟨r, hr⟩ : ∃ r, r = (Tr.fail t o.n o.f) := ⟨_, rfl⟩
  rw [← hr] at A ⊢
  clear h hl hk hr hs
  go_enter Try.func36, Try.ntmps36
  go_wp2_with fail
  refine (A.out _).mono ?_
  rintro e w2 ⟨p, cap, rfl, hG⟩
  have HG := Lib.hid (GoneE.from_ (one w _) hG)
  clear hG A
  go_wp2
  go_ret
  exact ⟨p, cap, rfl, HG.out⟩
set_option maxRecDepth 100000 in
set_option maxHeartbeats 4000000 in
theorem run_7 (h : Rep w own tb L t) (hl : Lim t) (o : Op) (hs : o.f.s.size ≤ 9223372036854775807) (hk : o.kd = 7) : Calls Try.prog 36 #[ptr tb, opV o] w (runPost w own tb (Tr.step t o)) := by
  have A : Hid (∀ x, Calls Try.prog 21 #[ptr tb] (w.alloc x) (goneII (w.alloc x) own tb (Tr.root t))) := Lib.hid fun x => root_any (h.below (one _ _)) hl
  unfold Tr.step
  simp only [hk, if_pos, if_neg, reduceIte, Int.reduceEq]
  unfold opV
  rw [hk]
  unfold goneII at A
  obtain ⟨r, hr⟩ : ∃ r, r = (Tr.root t) := ⟨_, rfl⟩
  rw [← hr] at A ⊢
  clear h hl hk hr hs
  go_enter Try.func36, Try.ntmps36
  go_wp2_with fail
  refine (A.out _).mono ?_
  rintro e w2 ⟨rfl, hG⟩
  have HG := Lib.hid (run_none (b := true) (one w _) hG)
  clear hG A
  go_wp2
  go_ret
  exact HG.out
set_option maxRecDepth 100000 in
set_option maxHeartbeats 4000000 in
theorem run_else (h : Rep w own tb L t) (o : Op) (h0 : o.kd ≠ 0) (h1 : o.kd ≠ 1) (h2 : o.kd ≠ 2) (h3 : o.kd ≠ 3) (h4 : o.kd ≠ 4) (h5 : o.kd ≠ 5) (h6 : o.kd ≠ 6) (h7 : o.kd ≠ 7) : Calls Try.prog 36 #[ptr tb, opV o] w (runPost w own tb (Tr.step t o)) := by
  have A : Hid (∀ x, Gone (w.alloc x) own tb t (w.alloc x)) := Lib.hid fun x => (h.below (one _ _)).gone
  unfold Tr.step
  rw [if_neg h0, if_neg h1, if_neg h2, if_neg h3, if_neg h4, if_neg h5, if_neg h6, if_neg h7]
  unfold opV
  clear h
  go_enter Try.func36, Try.ntmps36
  go_wp2
  go_ret
  exact run_none (one _ _) (A.out _)
theorem run_any (h : Rep w own tb L t) (hl : Lim t) (o : Op) (hs : o.f.s.size ≤ 9223372036854775807) : Calls Try.prog 36 #[ptr tb, opV o] w (runPost w own tb (Tr.step t o)) := by
  by_cases h0 : o.kd = 0
  · exact run_0 h hl o hs h0
  by_cases h1 : o.kd = 1
  · exact run_1 h hl o hs h1
  by_cases h2 : o.kd = 2
  · exact run_2 h hl o hs h2
  by_cases h3 : o.kd = 3
  · exact run_3 h hl o hs h3
  by_cases h4 : o.kd = 4
  · exact run_4 h hl o hs h4
  by_cases h5 : o.kd = 5
  · exact run_5 h hl o hs h5
  by_cases h6 : o.kd = 6
  · exact run_6 h hl o hs h6
  by_cases h7 : o.kd = 7
  · exact run_7 h hl o hs h7
  exact run_else h o h0 h1 h2 h3 h4 h5 h6 h7
set_option maxRecDepth 100000 in
set_option maxHeartbeats 4000000 in
theorem told_2 (h : Rep w own tb L t) (hl : Lim t) (o : Op) (hs : o.f.s.size ≤ 9223372036854775807) (hk : o.kd = 2) : Calls Try.prog 32 #[ptr tb, opV o] w (toldPost w own tb (Tr.step t o)) := by
  have A : Hid (∀ x, Calls Try.prog 18 #[ptr tb, .int .i64 o.n, flV o.f] (w.alloc x) (goneE (w.alloc x) own tb (Tr.end_ t o.n o.f))) := Lib.hid fun x => end_any (h.below (one _ _)) hl o.n o.f hs
  unfold Tr.step
  simp only [hk, if_pos, if_neg, reduceIte, Int.reduceEq]
  unfold opV
  rw [hk]
  unfold goneE at A
  unfold flV at A
  obtain ⟨r, hr⟩ : ∃ r, r = (Tr.end_ t o.n o.f) := ⟨_, rfl⟩
  rw [← hr] at A ⊢
  clear h hl hk hr hs
  go_enter Try.func32, Try.ntmps32
  go_wp2_with fail
  refine (A.out _).mono ?_
  rintro e w2 ⟨p, cap, rfl, hG⟩
  have HG := Lib.hid (GoneE.from_ (one w _) hG)
  clear hG A
  go_wp2
  go_ret2
  exact ⟨p, cap, by simp; rfl, HG.out⟩
set_option maxRecDepth 100000 in
set_option maxHeartbeats 4000000 in
theorem told_3 (h : Rep w own tb L t) (hl : Lim t) (o : Op) (hs : o.f.s.size ≤ 9223372036854775807) (hk : o.kd = 3) : Calls Try.prog 32 #[ptr tb, opV o] w (toldPost w own tb (Tr.step t o)) := by
  have A : Hid (∀ x, Calls Try.prog 19 #[ptr tb, .int .i64 o.n, flV o.f] (w.alloc x) (goneE (w.alloc x) own tb (Tr.leave t o.n o.f))) := Lib.hid fun x => leave_any (h.below (one _ _)) hl o.n o.f hs
  unfold Tr.step
  simp only [hk, if_pos, if_neg, reduceIte, Int.reduceEq]
  unfold opV
  rw [hk]
  unfold goneE at A
  unfold flV at A
  obtain ⟨r, hr⟩ : ∃ r, r = (Tr.leave t o.n o.f) := ⟨_, rfl⟩
  rw [← hr] at A ⊢
  clear h hl hk hr hs
  go_enter Try.func32, Try.ntmps32
  go_wp2_with fail
  refine (A.out _).mono ?_
  rintro e w2 ⟨p, cap, rfl, hG⟩
  have HG := Lib.hid (GoneE.from_ (one w _) hG)
  clear hG A
  go_wp2
  go_ret2
  exact ⟨p, cap, by simp; rfl, HG.out⟩
set_option maxRecDepth 100000 in
set_option maxHeartbeats 4000000 in
theorem told_6 (h : Rep w own tb L t) (hl : Lim t) (o : Op) (hs : o.f.s.size ≤ 9223372036854775807) (hk : o.kd = 6) : Calls Try.prog 32 #[ptr tb, opV o] w (toldPost w own tb (Tr.step t o)) := by
  have A : Hid (∀ x, Calls Try.prog 20 #[ptr tb, .int .i64 o.n, flV o.f] (w.alloc x) (goneE (w.alloc x) own tb (Tr.fail t o.n o.f))) := Lib.hid fun x => fail_any (h.below (one _ _)) o.n o.f hs
  unfold Tr.step
  simp only [hk, if_pos, if_neg, reduceIte, Int.reduceEq]
  unfold opV
  rw [hk]
  unfold goneE at A
  unfold flV at A
  obtain ⟨r, hr⟩ : ∃ r, r = (Tr.fail t o.n o.f) := ⟨_, rfl⟩
  rw [← hr] at A ⊢
  clear h hl hk hr hs
  go_enter Try.func32, Try.ntmps32
  go_wp2_with fail
  refine (A.out _).mono ?_
  rintro e w2 ⟨p, cap, rfl, hG⟩
  have HG := Lib.hid (GoneE.from_ (one w _) hG)
  clear hG A
  go_wp2
  go_ret2
  exact ⟨p, cap, by simp; rfl, HG.out⟩
set_option maxRecDepth 100000 in
set_option maxHeartbeats 4000000 in
theorem told_else (h : Rep w own tb L t) (hl : Lim t) (o : Op) (hs : o.f.s.size ≤ 9223372036854775807) (h2 : o.kd ≠ 2) (h3 : o.kd ≠ 3) (h6 : o.kd ≠ 6) : Calls Try.prog 32 #[ptr tb, opV o] w (toldPost w own tb (Tr.step t o)) := by
  have A : Hid (∀ x, Calls Try.prog 36 #[ptr tb, opV o] (w.alloc x) (runPost (w.alloc x) own tb (Tr.step t o))) := Lib.hid fun x => run_any (h.below (one _ _)) hl o hs
  have HE : (Tr.step t o).2.2 = true := by
    unfold Tr.step
    repeat' split
    all_goals first | rfl | contradiction
  unfold runPost at A
  unfold toldPost
  rw [HE]
  unfold opV at *
  obtain ⟨r, hr⟩ : ∃ r, r = Tr.step t o := ⟨_, rfl⟩
  rw [← hr] at A ⊢
  clear h hl hs hr HE
  go_enter Try.func32, Try.ntmps32
  go_wp2_with fail
  refine (A.out _).mono ?_
  rintro e w2 ⟨p, cap, rfl, hG⟩
  have HG := Lib.hid (GoneE.from_ (one w _) hG)
  clear hG A
  go_wp2
  go_ret2
  exact ⟨p, cap, rfl, HG.out⟩
theorem told_any (h : Rep w own tb L t) (hl : Lim t) (o : Op) (hs : o.f.s.size ≤ 9223372036854775807) : Calls Try.prog 32 #[ptr tb, opV o] w (toldPost w own tb (Tr.step t o)) := by
  by_cases h2 : o.kd = 2
  · exact told_2 h hl o hs h2
  by_cases h3 : o.kd = 3
  · exact told_3 h hl o hs h3
  by_cases h6 : o.kd = 6
  · exact told_6 h hl o hs h6
  exact told_else h hl o hs h2 h3 h6
end
end Go.Proofs.Ytcegmdlmnibheaa
