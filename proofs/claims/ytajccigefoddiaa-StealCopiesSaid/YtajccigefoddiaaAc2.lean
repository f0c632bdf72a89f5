/- A step of an actor. -/
import Derived.Test.YtajccigefoddiaaAc1
import Derived.Deep.CutBlock
namespace Go.Proofs.Ytajccigefoddiaa
set_option linter.unusedVariables false
set_option linter.unusedSimpArgs false
open Go.RowKit Go.Shelf
theorem run_store_func (P : Program) (w : World) (a : Addr) (m : Mode) (f : Fn) (fi ca : Array Value) : (store a (.func f fi ca) m).run P w = stored P w a (.func f fi ca) m := run_store P w a _ m rfl
theorem run_store_nilf (P : Program) (w : World) (a : Addr) (m : Mode) : (store a .nilFunc m).run P w = stored P w a .nilFunc m := run_store P w a _ m rfl
theorem info3 : (Try.prog.info? 3).map (fun i => (i.zero, i.size, i.bytes)) = some (some (.int .i64 0), 1, 8) := by kernel_rfl
theorem ownsRow_succ {w : World} {base : Nat} {e : TypeId} {size : Nat} {v : Value} {n : Nat} {xs : List Value} (h : w.ownsRow base e size v (n + 1) xs) : ∃ g cap, v = .slice (some ⟨g, 0, none⟩) (n + 1) cap := by
  rcases h.2 with ⟨_, h0⟩ | ⟨g, cap, cur, e, _⟩
  · omega
  · exact ⟨g, cap, e⟩
section
variable {W W' w : World} {rb cb ab o : Nat} {av : Value} {d : St.Dq} {A : Nat → Prop}
/-- Where an actor lies. -/
structure AcIn (w : World) (rb cb ab o : Nat) (cs : List Value) (A : Nat → Prop) (a : St.Ac) (tv nv gv : Value) : Prop where
  blk : Blk w ab cs
  c0 : cs[o]? = some tv
  c1 : cs[o + 1]? = some nv
  c2 : cs[o + 2]? = some gv
  todo : TodoAt w A tv a.todo
  next : PhAt w A nv a.next
  got : w.ownsRow 0 3 1 gv a.got.length (ints a.got)
  gl : a.got.length ≤ 1000
  apart : ∀ k, A k → k ≠ rb ∧ k ≠ cb ∧ k ≠ ab ∧ gv.ownBlock ≠ some k
  n1 : ab ≠ rb
  n2 : ab ≠ cb
  g1 : gv.ownBlock ≠ some rb
  g2 : gv.ownBlock ≠ some cb
  g3 : gv.ownBlock ≠ some ab
/-- Behind the choice of what comes next. -/
def FirstCut (w : World) (A : Nat → Prop) (ab o : Nat) (cs : List Value) (p : St.Ph) (l : List St.Op) (wx : World) : Prop :=
  ∃ tv nv, TodoAt wx A tv l ∧ PhAt wx A nv (some p) ∧ Blk wx ab ((cs.set o tv).set (o + 1) nv) ∧ Fr (fun k => k = ab) w wx
def stepPost (w : World) (rb cb ab o : Nat) (av : Value) (cs : List Value) (A : Nat → Prop) (gv : Value) (r : Option (St.Dq × St.Ac)) (e : Ending) (w' : World) : Prop :=
  match r with
  | none => e = .returned (.bool false) ∧ w = w'
  | some (d', a') => ∃ tv nv gv', e = .returned (.bool true) ∧ Dr w' rb cb av d' ∧ Blk w' ab (((cs.set o tv).set (o + 1) nv).set (o + 2) gv') ∧ TodoAt w' A tv a'.todo ∧
      w'.ownsRow 0 3 1 gv' a'.got.length (ints a'.got) ∧ Fr (fun k => k = rb ∨ k = cb ∨ k = ab ∨ gv.ownBlock = some k) w w' ∧
      ((PhAt w' (fun k => A k ∨ w.heap.size ≤ k) nv a'.next ∧ gv' = gv) ∨ (a'.next = none ∧ nv = .nilFunc ∧ (gv'.ownBlock = gv.ownBlock ∨ ∃ g, gv'.ownBlock = some g ∧ w.heap.size ≤ g)))
theorem opFirst_val (op : St.Op) : ∃ nv, ∀ W A, PhAt W A nv (some op.first) := by
  cases op with
  | push x => exact ⟨_, fun _ _ => rfl⟩
  | take => exact ⟨_, fun _ _ => rfl⟩
  | theft => exact ⟨_, fun _ _ => rfl⟩
set_option maxRecDepth 100000 in
theorem first_push (x : Int) (w : World) : Calls Try.prog 115 #[.int .i64 x] w (still w (.func (.func 116) #[.int .i64 x] #[])) := by
  unfold still
  go_enter Try.func115, Try.ntmps115
  go_wp2
  go_ret
  exact ⟨rfl, Below.refl _ _⟩
set_option maxRecDepth 100000 in
theorem first_take (w : World) : Calls Try.prog 110 #[.agg #[]] w (still w (.func (.func 111) #[] #[])) := by
  unfold still
  go_enter Try.func110, Try.ntmps110
  go_wp2
  go_ret
  exact ⟨rfl, one _ _⟩
set_option maxRecDepth 100000 in
theorem first_theft (w : World) : Calls Try.prog 119 #[.agg #[]] w (still w (.func (.func 120) #[] #[])) := by
  unfold still
  go_enter Try.func119, Try.ntmps119
  go_wp2
  go_ret
  exact ⟨rfl, one _ _⟩
end
end Go.Proofs.Ytajccigefoddiaa
