/- What Task and Scope do. -/
import Derived.Test.YtcegmdlmnibheaaSState
import Derived.Test.YtcegmdlmnibheaaNil
namespace Go.Proofs.Ytcegmdlmnibheaa
set_option linter.unusedVariables false
set_option linter.unusedSimpArgs false
open Go.RowKit
section
variable {w : World} {own : Own} {tb : Nat} {L : Lay} {t : Tr.T}
/-- The state of a task, of a scope, as a value. -/
def tsV (x : Tr.Tk) (q : Option Addr) (cq : Nat) : Value := .agg #[.int .i64 (scN x.sc), .bool x.done, .bool x.leav, .int .i64 x.flt.k, .string x.flt.s, .slice q x.op.length cq]
def ssV (y : Tr.Sc) (q : Option Addr) (cq : Nat) : Value := .agg #[.int .i64 ((y.own : Int) + 1), .bool y.sup, .bool y.done, .slice q y.tks.length cq, .int .i64 y.flt.k, .string y.flt.s]
def taskOk (w : World) (x : Tr.Tk) (e : Ending) (w' : World) : Prop := ∃ q cq, e = .returned (.tuple #[tsV x q cq, .int .i64 0]) ∧ x.op.length ≤ cq ∧ cq ≤ maxLen ∧ LinksRow w w' (.slice q x.op.length cq) x.op
def scopeOk (w : World) (y : Tr.Sc) (e : Ending) (w' : World) : Prop := ∃ q cq, e = .returned (.tuple #[ssV y q cq, .int .i64 0]) ∧ y.tks.length ≤ cq ∧ cq ≤ maxLen ∧ NumsRow w w' (.slice q y.tks.length cq) y.tks
theorem row_from {W0 W1 W : World} {e : TypeId} {sz n : Nat} {v : Value} {xs : List Value} (h : W.ownsRow W1.heap.size e sz v n xs) (hs : W0.heap.size ≤ W1.heap.size) : W.ownsRow W0.heap.size e sz v n xs := by
  refine ⟨h.1, ?_⟩
  rcases h.2 with e0 | ⟨g, c0, cur, e1, hg, r⟩
  · exact .inl e0
  · exact .inr ⟨g, c0, cur, e1, by omega, r⟩
set_option maxRecDepth 100000 in
set_option maxHeartbeats 4000000 in
theorem Task_ok (h : Rep w own tb L t) (hl : Lim t) {n : Int} {x : Tr.Tk} (hx : Tr.tk t n = some x) : Calls Try.prog 22 #[ptr tb, .int .i64 n] w (taskOk w x) := by
  obtain ⟨i, rfl, hi⟩ := tk_some hx
  unfold taskOk tsV
  have A : Hid (∀ o, Calls Try.prog 63 #[ptr tb, .int .i64 ((i : Int) + 1)] (w.alloc o) (same (w.alloc o) (.tuple #[tkP L i, .int .i64 0]))) := Lib.hid fun o => task_ok (h.below (one _ _)) hi
  have B : Hid (∀ o, Calls Try.prog 64 #[tkP L i] (w.alloc o) fun e w' => ∃ q cq, e = .returned (.agg #[.int .i64 (scN x.sc), .bool x.done, .bool x.leav, .int .i64 x.flt.k, .string x.flt.s, .slice q x.op.length cq]) ∧ x.op.length ≤ cq ∧ cq ≤ maxLen ∧ LinksRow (w.alloc o) w' (.slice q x.op.length cq) x.op) := Lib.hid fun o => tstate_any (h.below (one _ _)) hl hi
  unfold same at A
  unfold tkP at A B
  clear h hl hx hi
  go_enter Try.func22, Try.ntmps22
  go_wp2_with fail
  refine (A.out _).mono ?_
  rintro e w2 ⟨rfl, rfl⟩
  go_wp2_with fail
  refine (B.out _).mono ?_
  rintro e w3 ⟨q, cq, rfl, h1, h2, h3⟩
  have b := (Blk.new w #[.int .i64 0, .bool false, .bool false, .int .i64 0, .string ⟨#[]⟩, .slice none 0 0] 52).below h3.2 (Blk.new w #[.int .i64 0, .bool false, .bool false, .int .i64 0, .string ⟨#[]⟩, .slice none 0 0] 52).lt
  have z0 := b.cell 0 _ rfl
  have z1 := b.cell 1 _ rfl
  have z2 := b.cell 2 _ rfl
  have z3 := b.cell 3 _ rfl
  have z4 := b.cell 4 _ rfl
  have z5 := b.cell 5 _ rfl
  have y0 := b.fz 0
  have y1 := b.fz 1
  have y2 := b.fz 2
  have y3 := b.fz 3
  have y4 := b.fz 4
  have y5 := b.fz 5
  have zl := b.lt
  have H3 := Lib.hid h3
  have HFIN : Hid (∀ W', Fr (fun k => k = w.heap.size) w3 W' → LinksRow w W' (.slice q x.op.length cq) x.op) := Lib.hid fun W' hF => by
    have hz : w.heap.size + 1 ≤ w3.heap.size := zl
    have h1 := owns_fr H3.out.1 hF fun k e hk => by have := (H3.out.1.lt k e).1; simp at this; omega
    exact ⟨row_from h1 (by simp), ((one w _).trans (H3.out.2.mono (by simp))).trans (hF.below (fun k hk => by omega) (by omega))⟩
  clear b h3 A B
  go_wp2
  refine bodyPost_ret (v := .tuple #[.agg #[.int .i64 (scN x.sc), .bool x.done, .bool x.leav, .int .i64 x.flt.k, .string x.flt.s, .slice q x.op.length cq], .int .i64 0]) (by simp [results, Try.results22, go_sem, z0, z1, z2, z3, z4, z5]) rfl ⟨q, cq, rfl, h1, h2, HFIN.out _ ?_⟩
  exact ((((((Fr.refl (fun k => k = w.heap.size) w3).at1 rfl 0 _).at1 rfl 1 _).at1 rfl 2 _).at1 rfl 3 _).at1 rfl 4 _).at1 rfl 5 _
set_option maxRecDepth 100000 in
set_option maxHeartbeats 4000000 in
theorem Task_no (h : Rep w own tb L t) {n : Int} (hx : Tr.tk t n = none) : Calls Try.prog 22 #[ptr tb, .int .i64 n] w (still w (.tuple #[zTask, .int .i64 6])) := by
  unfold still zTask
  have A : Hid (∀ o, Calls Try.prog 63 #[ptr tb, .int .i64 n] (w.alloc o) (same (w.alloc o) (.tuple #[.pointer none, .int .i64 6]))) := Lib.hid fun o => task_no (h.below (one _ _)) hx
  unfold same at A
  clear h hx
  go_enter Try.func22, Try.ntmps22
  go_wp2_with fail
  refine (A.out _).mono ?_
  rintro e w2 ⟨rfl, rfl⟩
  go_wp2
  refine bodyPost_ret (v := .tuple #[.agg #[.int .i64 0, .bool false, .bool false, .int .i64 0, .string ⟨#[]⟩, .slice none 0 0], .int .i64 6]) (by simp [results, Try.results22, go_sem]) rfl ⟨rfl, one _ _⟩
set_option maxRecDepth 100000 in
set_option maxHeartbeats 4000000 in
theorem Scope_ok (h : Rep w own tb L t) (hl : Lim t) {n : Int} {y : Tr.Sc} (hy : Tr.scp t n = some y) : Calls Try.prog 23 #[ptr tb, .int .i64 n] w (scopeOk w y) := by
  obtain ⟨i, rfl, hi⟩ := scp_some hy
  unfold scopeOk ssV
  have A : Hid (∀ o, Calls Try.prog 62 #[ptr tb, .int .i64 ((i : Int) + 1)] (w.alloc o) (same (w.alloc o) (.tuple #[scP L (some i), .int .i64 0]))) := Lib.hid fun o => scope_ok (h.below (one _ _)) hi
  have B : Hid (∀ o, Calls Try.prog 65 #[scP L (some i)] (w.alloc o) fun e w' => ∃ q cq, e = .returned (.agg #[.int .i64 ((y.own : Int) + 1), .bool y.sup, .bool y.done, .slice q y.tks.length cq, .int .i64 y.flt.k, .string y.flt.s]) ∧ y.tks.length ≤ cq ∧ cq ≤ maxLen ∧ NumsRow (w.alloc o) w' (.slice q y.tks.length cq) y.tks) := Lib.hid fun o => sstate_any (h.below (one _ _)) hl hi
  unfold same at A
  unfold scP at A B
  clear h hl hy hi
  go_enter Try.func23, Try.ntmps23
  go_wp2_with fail
  refine (A.out _).mono ?_
  rintro e w2 ⟨rfl, rfl⟩
  go_wp2_with fail
  refine (B.out _).mono ?_
  rintro e w3 ⟨q, cq, rfl, h1, h2, h3⟩
  have b := (Blk.new w #[.int .i64 0, .bool false, .bool false, .slice none 0 0, .int .i64 0, .string ⟨#[]⟩] 57).below h3.2 (Blk.new w #[.int .i64 0, .bool false, .bool false, .slice none 0 0, .int .i64 0, .string ⟨#[]⟩] 57).lt
  have z0 := b.cell 0 _ rfl
  have z1 := b.cell 1 _ rfl
  have z2 := b.cell 2 _ rfl
  have z3 := b.cell 3 _ rfl
  have z4 := b.cell 4 _ rfl
  have z5 := b.cell 5 _ rfl
  have y0 := b.fz 0
  have y1 := b.fz 1
  have y2 := b.fz 2
  have y3 := b.fz 3
  have y4 := b.fz 4
  have y5 := b.fz 5
  have zl := b.lt
  have H3 := Lib.hid h3
  have HFIN : Hid (∀ W', Fr (fun k => k = w.heap.size) w3 W' → NumsRow w W' (.slice q y.tks.length cq) y.tks) := Lib.hid fun W' hF => by
    have hz : w.heap.size + 1 ≤ w3.heap.size := zl
    have h1 := owns_fr H3.out.1 hF fun k e hk => by have := (H3.out.1.lt k e).1; simp at this; omega
    exact ⟨row_from h1 (by simp), ((one w _).trans (H3.out.2.mono (by simp))).trans (hF.below (fun k hk => by omega) (by omega))⟩
  clear b h3 A B
  go_wp2
  refine bodyPost_ret (v := .tuple #[.agg #[.int .i64 ((y.own : Int) + 1), .bool y.sup, .bool y.done, .slice q y.tks.length cq, .int .i64 y.flt.k, .string y.flt.s], .int .i64 0]) (by simp [results, Try.results23, go_sem, z0, z1, z2, z3, z4, z5]) rfl ⟨q, cq, rfl, h1, h2, HFIN.out _ ?_⟩
  exact ((((((Fr.refl (fun k => k = w.heap.size) w3).at1 rfl 0 _).at1 rfl 1 _).at1 rfl 2 _).at1 rfl 3 _).at1 rfl 4 _).at1 rfl 5 _
set_option maxRecDepth 100000 in
set_option maxHeartbeats 4000000 in
theorem Scope_no (h : Rep w own tb L t) {n : Int} (hy : Tr.scp t n = none) : Calls Try.prog 23 #[ptr tb, .int .i64 n] w (still w (.tuple #[zScope, .int .i64 6])) := by
  unfold still zScope
  have A : Hid (∀ o, Calls Try.prog 62 #[ptr tb, .int .i64 n] (w.alloc o) (same (w.alloc o) (.tuple #[.pointer none, .int .i64 6]))) := Lib.hid fun o => scope_no (h.below (one _ _)) hy
  unfold same at A
  clear h hy
  go_enter Try.func23, Try.ntmps23
  go_wp2_with fail
  refine (A.out _).mono ?_
  rintro e w2 ⟨rfl, rfl⟩
  go_wp2
  refine bodyPost_ret (v := .tuple #[.agg #[.int .i64 0, .bool false, .bool false, .slice none 0 0, .int .i64 0, .string ⟨#[]⟩], .int .i64 6]) (by simp [results, Try.results23, go_sem]) rfl ⟨rfl, one _ _⟩
end
end Go.Proofs.Ytcegmdlmnibheaa
