/- An actor: what it has to do, and whether it is done. -/
import Derived.Shelf.Abstract
import Derived.Test.YtajccigefoddiaaPh4
namespace Go.Proofs.Ytajccigefoddiaa
set_option linter.unusedVariables false
set_option linter.unusedSimpArgs false
open Go.RowKit Go.Shelf
def opV : St.Op → Value
  | .push x => .iface 141 (.int .i64 x)
  | .take => .iface 140 (.agg #[])
  | .theft => .iface 143 (.agg #[])
/-- What is left to do: operations in memory that is never written again. -/
def TodoAt (W : World) (A : Nat → Prop) (v : Value) (l : List St.Op) : Prop :=
  ∃ p cap, v = .slice p l.length cap ∧ l.length ≤ cap ∧ cap ≤ maxLen ∧ ∀ (i : Nat) x, l[i]? = some x → ∃ g off, p = some ⟨g, off, none⟩ ∧ A g ∧ g < W.heap.size ∧ W.cell? ⟨g, off + i, none⟩ = some (opV x)
def IsFn (v : Value) : Prop := ∃ f fi ca, v = .func (.func f) fi ca
section
variable {W W' w : World} {rb cb ab o : Nat} {av : Value} {d : St.Dq} {A : Nat → Prop}
theorem TodoAt.fr {v : Value} {l : List St.Op} (h : TodoAt W A v l) {S : Nat → Prop} (hF : Fr S W W') {A' : Nat → Prop} (hA : ∀ k, A k → k < W.heap.size → A' k ∧ ¬ S k) : TodoAt W' A' v l := by
  obtain ⟨p, cap, e, h1, h2, h3⟩ := h
  refine ⟨p, cap, e, h1, h2, fun i x hx => ?_⟩
  obtain ⟨g, off, e, h1, h2, h3⟩ := h3 i x hx
  exact ⟨g, off, e, (hA g h1 h2).1, Nat.lt_of_lt_of_le h2 hF.size, (hF.cell (p := ⟨g, off + i, none⟩) h2 (hA g h1 h2).2).trans h3⟩
theorem PhAt.fn {v : Value} {p : St.Ph} (h : PhAt W A v (some p)) : IsFn v := by
  cases p with
  | last t x => obtain ⟨a, b, e, _⟩ := h; exact ⟨_, _, _, e⟩
  | bound t => obtain ⟨a, e, _⟩ := h; exact ⟨_, _, _, e⟩
  | reach t => obtain ⟨a, e, _⟩ := h; exact ⟨_, _, _, e⟩
  | claim t x => obtain ⟨a, b, e, _⟩ := h; exact ⟨_, _, _, e⟩
  | _ => exact ⟨_, _, _, h⟩
theorem run_fn_nil (f : Fn) (fi ca : Array Value) (w : World) : (binOp .eql 89 (.func f fi ca) .nilFunc).run Try.prog w = .ok (.bool false) w := by
  have h : ∀ d : Nat, (Op.equalIn (d + 1) 89 (.func f fi ca) .nilFunc).run Try.prog w = .ok false w := fun d => by simp [Op.equalIn, run_underlying Try.underlying89]
  simp only [binOp]
  simp [Op.equal, Op.maxDepth, h 9999]
theorem run_nil_nil (w : World) : (binOp .eql 89 .nilFunc .nilFunc).run Try.prog w = .ok (.bool true) w := by
  have h : ∀ d : Nat, (Op.equalIn (d + 1) 89 .nilFunc .nilFunc).run Try.prog w = .ok true w := fun d => by simp [Op.equalIn, run_underlying Try.underlying89]
  simp only [binOp]
  simp [Op.equal, Op.maxDepth, h 9999]
set_option maxRecDepth 100000 in
theorem isDone_fn (f : Nat) (fi ca : Array Value) (hlt : ab < w.heap.size) (c1 : w.cell? ⟨ab, o + 1, none⟩ = some (.func (.func f) fi ca)) : Calls Try.prog 58 #[.pointer (some ⟨ab, o, none⟩)] w (same w (.bool false)) := by
  unfold same
  have HN := run_fn_nil
  go_enter Try.func58, Try.ntmps58
  go_wp2
  go_ret
  exact ⟨rfl, rfl⟩
set_option maxRecDepth 100000 in
theorem isDone_nil (p : Option Addr) (n cap : Nat) (hlt : ab < w.heap.size) (c1 : w.cell? ⟨ab, o + 1, none⟩ = some .nilFunc) (c0 : w.cell? ⟨ab, o, none⟩ = some (.slice p n cap)) : Calls Try.prog 58 #[.pointer (some ⟨ab, o, none⟩)] w (same w (.bool (decide (n = 0)))) := by
  unfold same
  have HN := run_nil_nil
  cases n with
  | zero =>
    go_enter Try.func58, Try.ntmps58
    go_wp2
    go_ret
    exact ⟨rfl, rfl⟩
  | succ n =>
    have h1 : (((n + 1 : Nat) : Int) == 0) = false := by simp; omega
    go_enter Try.func58, Try.ntmps58
    go_wp2
    go_ret
    exact ⟨by simp; try omega, rfl⟩
theorem enters116 : ∀ args w, (callFunc 116 args).run Try.prog w = .ok (.enter 116 args) w := enters_of Try.func116 (by kernel_rfl) rfl
theorem enters117 : ∀ args w, (callFunc 117 args).run Try.prog w = .ok (.enter 117 args) w := enters_of Try.func117 (by kernel_rfl) rfl
theorem enters118 : ∀ args w, (callFunc 118 args).run Try.prog w = .ok (.enter 118 args) w := enters_of Try.func118 (by kernel_rfl) rfl
theorem enters111 : ∀ args w, (callFunc 111 args).run Try.prog w = .ok (.enter 111 args) w := enters_of Try.func111 (by kernel_rfl) rfl
theorem enters112 : ∀ args w, (callFunc 112 args).run Try.prog w = .ok (.enter 112 args) w := enters_of Try.func112 (by kernel_rfl) rfl
theorem enters113 : ∀ args w, (callFunc 113 args).run Try.prog w = .ok (.enter 113 args) w := enters_of Try.func113 (by kernel_rfl) rfl
theorem enters114 : ∀ args w, (callFunc 114 args).run Try.prog w = .ok (.enter 114 args) w := enters_of Try.func114 (by kernel_rfl) rfl
theorem enters120 : ∀ args w, (callFunc 120 args).run Try.prog w = .ok (.enter 120 args) w := enters_of Try.func120 (by kernel_rfl) rfl
theorem enters121 : ∀ args w, (callFunc 121 args).run Try.prog w = .ok (.enter 121 args) w := enters_of Try.func121 (by kernel_rfl) rfl
theorem enters123 : ∀ args w, (callFunc 123 args).run Try.prog w = .ok (.enter 123 args) w := enters_of Try.func123 (by kernel_rfl) rfl
theorem enters124 : ∀ args w, (callFunc 124 args).run Try.prog w = .ok (.enter 124 args) w := enters_of Try.func124 (by kernel_rfl) rfl
/-- What the numbers must be for a step. -/
def PhOk (d : St.Dq) : St.Ph → Prop
  | .write _ => 0 ≤ d.bottom
  | .raise _ => d.bottom < 100000
  | .lower => 0 ≤ d.bottom
  | .readLast => 0 ≤ d.bottom
  | .last t _ => t < 100000
  | .bound t => t ≤ 100000
  | .reach t => t ≤ 100000
  | .claim t _ => t ≤ 100000 ∧ (d.top = t → d.top < 100000)
  | _ => True
theorem ph_any {v : Value} {p : St.Ph} (hv : PhAt w A v (some p)) (h : Dr w rb cb av d) (hp : PhOk d p) (hA : ∀ k, A k → k ≠ rb ∧ k ≠ cb) :
    ∃ f fi ca, v = .func (.func f) fi ca ∧ (∀ args w, (callFunc f args).run Try.prog w = .ok (.enter f args) w) ∧ Calls Try.prog f (fi ++ #[ptr rb] ++ ca) w (phPost w rb cb av A (p.run d)) := by
  cases p with
  | look x => exact ⟨116, _, _, hv, enters116, look_any h x⟩
  | write x => exact ⟨117, _, _, hv, enters117, write_any h x hp⟩
  | raise x => exact ⟨118, _, _, hv, enters118, raise_any h x hp⟩
  | lower => exact ⟨111, _, _, hv, enters111, lower_any h hp⟩
  | compare => exact ⟨112, _, _, hv, enters112, compare_any h⟩
  | readLast => exact ⟨113, _, _, hv, enters113, readLast_any h hp⟩
  | last t x => obtain ⟨a, b, e, h1, h2⟩ := hv; exact ⟨114, _, _, e, enters114, last_any h t x hp h1 h2 hA⟩
  | aim => exact ⟨120, _, _, hv, enters120, aim_any h⟩
  | bound t => obtain ⟨a, e, h1⟩ := hv; exact ⟨121, _, _, e, enters121, bound_any h t hp h1⟩
  | reach t => obtain ⟨a, e, h1⟩ := hv; exact ⟨123, _, _, e, enters123, reach1_any h t hp h1 hA⟩
  | claim t x => obtain ⟨a, b, e, h1, h2⟩ := hv; exact ⟨124, _, _, e, enters124, claim2_any h t x hp.1 hp.2 h1 h2 hA⟩
end
end Go.Proofs.Ytajccigefoddiaa
