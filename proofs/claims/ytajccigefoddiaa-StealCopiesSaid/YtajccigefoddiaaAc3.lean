/- What the step of an actor does. -/
import Derived.Test.YtajccigefoddiaaAc2
namespace Go.Proofs.Ytajccigefoddiaa
set_option linter.unusedVariables false
set_option linter.unusedSimpArgs false
open Go.RowKit Go.Shelf
attribute [local go_sem] run_store_func
section
variable {W W' w : World} {rb cb ab o : Nat} {av : Value} {d : St.Dq} {A : Nat → Prop}
theorem AcIn.isDone {cs : List Value} {a : St.Ac} {tv nv gv : Value} (h : AcIn w rb cb ab o cs A a tv nv gv) : Calls Try.prog 58 #[.pointer (some ⟨ab, o, none⟩)] w (same w (.bool a.at.isNone)) := by
  obtain ⟨td, nx, gt⟩ := a
  have c0 := h.blk.cell _ _ h.c0
  have c1 := h.blk.cell _ _ h.c1
  have hlt := h.blk.lt
  have hn := h.next
  cases nx with
  | none =>
    obtain ⟨p, cap, e, -⟩ := h.todo
    have e2 : nv = .nilFunc := hn
    rw [e2] at c1
    rw [e] at c0
    have := isDone_nil (o := o) p td.length cap hlt c1 c0
    cases td with
    | nil => exact this
    | cons x l => exact this
  | some q =>
    obtain ⟨f, fi, ca, e⟩ := hn.fn
    rw [e] at c1
    exact isDone_fn (o := o) f fi ca hlt c1
theorem FirstCut.stay {cs : List Value} {l : List St.Op} {p : St.Ph} {g : List Int} {tv nv gv : Value} (h : AcIn w rb cb ab o cs A ⟨l, some p, g⟩ tv nv gv) : FirstCut w A ab o cs p l w := by
  refine ⟨tv, nv, h.todo, h.next, ?_, Fr.refl _ _⟩
  have e1 : cs.set o tv = cs := by
    apply List.ext_getElem?
    intro i
    by_cases hi : i = o
    · subst hi; rw [List.getElem?_set_self (List.getElem?_eq_some_iff.1 h.c0).1, h.c0]
    · rw [List.getElem?_set_ne (Ne.symm hi)]
  have e2 : cs.set (o + 1) nv = cs := by
    apply List.ext_getElem?
    intro i
    by_cases hi : i = o + 1
    · subst hi; rw [List.getElem?_set_self (List.getElem?_eq_some_iff.1 h.c1).1, h.c1]
    · rw [List.getElem?_set_ne (Ne.symm hi)]
  rw [e1, e2]
  exact h.blk
theorem first141 (x : Value) (w : World) : (method 277 141 x "seedbed/steal.first").run Try.prog w = .ok (115, x) w := by kernel_rfl
theorem first140 (x : Value) (w : World) : (method 277 140 x "seedbed/steal.first").run Try.prog w = .ok (110, x) w := by kernel_rfl
theorem first143 (x : Value) (w : World) : (method 277 143 x "seedbed/steal.first").run Try.prog w = .ok (119, x) w := by kernel_rfl
theorem at_of_some {l : List St.Op} {p : St.Ph} {g : List Int} : (St.Ac.mk l (some p) g).at = some (p, l) := by cases l <;> rfl
/-- What the first step of an operation is found by. -/
structure OpF (op : St.Op) (T f : Nat) (xv nv : Value) : Prop where
  form : ∃ pf fi, nv = .func (.func pf) fi #[]
  val : opV op = .iface T xv
  meth : ∀ w, (method 277 T xv "seedbed/steal.first").run Try.prog w = .ok (f, xv) w
  ent : ∀ args w, (callFunc f args).run Try.prog w = .ok (.enter f args) w
  call : ∀ w, Calls Try.prog f #[xv] w (still w nv)
  ph : ∀ W A, PhAt W A nv (some op.first)
theorem opF_any (op : St.Op) : ∃ T f xv nv, OpF op T f xv nv := by
  cases op with
  | push x => exact ⟨141, 115, _, _, ⟨_, _, rfl⟩, rfl, first141 _, enters_of Try.func115 (by kernel_rfl) rfl, first_push x, fun _ _ => rfl⟩
  | take => exact ⟨140, 110, _, _, ⟨_, _, rfl⟩, rfl, first140 _, enters_of Try.func110 (by kernel_rfl) rfl, first_take, fun _ _ => rfl⟩
  | theft => exact ⟨143, 119, _, _, ⟨_, _, rfl⟩, rfl, first143 _, enters_of Try.func119 (by kernel_rfl) rfl, first_theft, fun _ _ => rfl⟩
theorem cut_make {cs : List Value} {op : St.Op} {l : List St.Op} {gt : List Int} {tv nv gv nv' tv' : Value} (h : AcIn w rb cb ab o cs A ⟨op :: l, none, gt⟩ tv nv gv) {w2 wx : World} (hb : Below w.heap.size w w2)
    (hx : wx = (w2.setCell ⟨ab, o + 1, none⟩ nv').setCell ⟨ab, o, none⟩ tv' ∨ wx = (w2.setCell ⟨ab, o, none⟩ tv').setCell ⟨ab, o + 1, none⟩ nv') (hp : ∀ W A, PhAt W A nv' (some op.first)) (ht : TodoAt w A tv' l) : FirstCut w A ab o cs op.first l wx := by
  have hB := h.blk.below hb h.blk.lt
  have ho := (List.getElem?_eq_some_iff.1 h.c0).1
  have ho1 := (List.getElem?_eq_some_iff.1 h.c1).1
  have hF : Fr (fun k => k = ab) w wx := by
    rcases hx with rfl | rfl <;> exact ((Fr.of_below hb : Fr (fun k => k = ab) w w2).set (b := ab) (.inl rfl) _ _).set (b := ab) (.inl rfl) _ _
  refine ⟨tv', nv', ht.fr hF (fun k hk _ => ⟨hk, fun e => (h.apart k hk).2.2.1 e⟩), hp _ _, ?_, hF⟩
  rcases hx with rfl | rfl
  · have := (hB.set (o := o + 1) ho1 nv').set (o := o) (by simpa using ho) tv'
    rwa [List.set_comm _ _ (by omega)] at this
  · exact (hB.set (o := o) ho tv').set (o := o + 1) (by simpa using ho1) nv'
theorem frA (W : World) (b o : Nat) (v : Value) : Fr (fun k => k = b) W (W.setCell ⟨b, o, none⟩ v) := (Fr.refl (fun k => k = b) W).set (.inl rfl) o v
theorem Fr.up {S S' : Nat → Prop} {A B : World} (h : Fr S A B) (hs : ∀ x, S x → S' x) : Fr S' A B := h.widen fun x e _ => hs x e
/-- The blocks that a step writes. -/
abbrev stS (rb cb ab : Nat) (gv : Value) : Nat → Prop := fun k => k = rb ∨ k = cb ∨ k = ab ∨ gv.ownBlock = some k
theorem keyg {cs : List Value} {gv : Value} (c2 : cs[o + 2]? = some gv) (v1 v2 : Value) : ((cs.set o v1).set (o + 1) v2).set (o + 2) gv = (cs.set o v1).set (o + 1) v2 := by
  have hlen2 : o + 2 < cs.length := (List.getElem?_eq_some_iff.1 c2).1
  apply List.ext_getElem?
  intro i
  by_cases hi : i = o + 2
  · subst hi
    rw [List.getElem?_set_self (by simpa using hlen2), List.getElem?_set_ne (by omega), List.getElem?_set_ne (by omega), c2]
  · rw [List.getElem?_set_ne (Ne.symm hi)]
section
variable {wx w2 w5 : World} {cs : List Value} {a : St.Ac} {tv0 nv0 gv tv nv : Value} {l : List St.Op} {r : St.Dq × Option St.Ph × Int}
theorem rest_go (h : AcIn w rb cb ab o cs A a tv0 nv0 gv) (hT : TodoAt wx A tv l) (hB : Blk wx ab ((cs.set o tv).set (o + 1) nv)) (hF : Fr (fun k => k = ab) w wx) {nv2 : Value}
    (hD2 : Dr w2 rb cb av r.1) (hP2 : PhAt w2 (fun k => A k ∨ wx.heap.size ≤ k) nv2 r.2.1) (hF2 : Fr (fun k => k = rb ∨ k = cb) wx w2) :
    stepPost w rb cb ab o av cs A gv (some (r.1, ⟨l, r.2.1, a.got⟩)) (.returned (.bool true)) (w2.setCell ⟨ab, o + 1, none⟩ nv2) := by
  have hlen : o + 1 < cs.length := (List.getElem?_eq_some_iff.1 h.c1).1
  have hB2 := (hB.fr hF2 (fun e => by rcases e with e | e; exact h.n1 e; exact h.n2 e)).set (o := o + 1) (by simpa using hlen) nv2
  rw [List.set_set] at hB2
  have hS := frA w2 ab (o + 1) nv2
  have hFx : Fr (stS rb cb ab gv) wx (w2.setCell ⟨ab, o + 1, none⟩ nv2) := (hF2.up (S' := stS rb cb ab gv) (fun x e => by rcases e with e | e; exact .inl e; exact .inr (.inl e))).trans (hS.up fun x e => .inr (.inr (.inl e)))
  have hFw : Fr (stS rb cb ab gv) w (w2.setCell ⟨ab, o + 1, none⟩ nv2) := (hF.up (S' := stS rb cb ab gv) fun x e => .inr (.inr (.inl e))).trans hFx
  have hAS : ∀ k, A k → ¬ stS rb cb ab gv k := fun k hk e => by have := h.apart k hk; rcases e with e | e | e | e; exact this.1 e; exact this.2.1 e; exact this.2.2.1 e; exact this.2.2.2 e
  have hF3 : Fr (fun k => k = rb ∨ k = cb ∨ k = ab) w (w2.setCell ⟨ab, o + 1, none⟩ nv2) := (hF.up (S' := fun k => k = rb ∨ k = cb ∨ k = ab) fun x e => .inr (.inr e)).trans ((hF2.up fun x e => by rcases e with e | e; exact .inl e; exact .inr (.inl e)).trans (hS.up fun x e => .inr (.inr e)))
  refine ⟨tv, nv2, gv, rfl, hD2.fr hS (fun e => h.n1 e.symm) (fun e => h.n2 e.symm), by rw [keyg h.c2]; exact hB2, hT.fr hFx (fun k hk _ => ⟨hk, hAS k hk⟩), ?_, hFw, .inl ⟨hP2.fr hS (fun k hk hlt => ?_), rfl⟩⟩
  · exact owns_fr h.got hF3 (fun k e hs => by rcases hs with rfl | rfl | rfl; exact h.g1 e; exact h.g2 e; exact h.g3 e)
  · have hz := hF.size
    have hab : ab < wx.heap.size := hB.lt
    rcases hk with hk | hk
    · exact ⟨.inl hk, (h.apart k hk).2.2.1⟩
    · exact ⟨.inr (by omega), fun e => by omega⟩
theorem rest_end (h : AcIn w rb cb ab o cs A a tv0 nv0 gv) (hT : TodoAt wx A tv l) (hB : Blk wx ab ((cs.set o tv).set (o + 1) nv)) (hF : Fr (fun k => k = ab) w wx)
    (hD2 : Dr w2 rb cb av r.1) (hF2 : Fr (fun k => k = rb ∨ k = cb) wx w2) {x : Obj} {gv' : Value} {y : Int} (hG : ((w2.setCell ⟨ab, o + 1, none⟩ .nilFunc).alloc x).grownBy w5 gv.ownBlock)
    (hrow : w5.ownsRow 0 3 1 gv' (a.got.length + 1) (ints a.got ++ [.int .i64 y])) (hat : gv'.ownBlock = gv.ownBlock ∨ gv'.ownBlock = some (w2.heap.size + 1)) :
    stepPost w rb cb ab o av cs A gv (some (r.1, ⟨l, none, a.got ++ [y]⟩)) (.returned (.bool true)) (w5.setCell ⟨ab, o + 2, none⟩ gv') := by
  have hlen : o + 1 < cs.length := (List.getElem?_eq_some_iff.1 h.c1).1
  have hlen2 : o + 2 < cs.length := (List.getElem?_eq_some_iff.1 h.c2).1
  have hB2 := (hB.fr hF2 (fun e => by rcases e with e | e; exact h.n1 e; exact h.n2 e)).set (o := o + 1) (by simpa using hlen) .nilFunc
  rw [List.set_set] at hB2
  have hB3 := ((hB2.alloc x).grown hG (fun e => h.g3 e.symm)).set (o := o + 2) (by simpa using hlen2) gv'
  have hS := frA w2 ab (o + 1) .nilFunc
  have hS6 := frA w5 ab (o + 2) gv'
  have hzs : (w2.setCell ⟨ab, o + 1, none⟩ .nilFunc).heap.size = w2.heap.size := by simp [World.setCell]
  have hF3 : Fr (fun k => k = rb ∨ k = cb ∨ k = ab) w (w2.setCell ⟨ab, o + 1, none⟩ .nilFunc) := (hF.up (S' := fun k => k = rb ∨ k = cb ∨ k = ab) fun x e => .inr (.inr e)).trans ((hF2.up fun x e => by rcases e with e | e; exact .inl e; exact .inr (.inl e)).trans (hS.up fun x e => .inr (.inr e)))
  have hgot := owns_fr h.got hF3 (fun k e hs => by rcases hs with rfl | rfl | rfl; exact h.g1 e; exact h.g2 e; exact h.g3 e)
  have hF4 : Fr (fun k => gv.ownBlock = some k) (w2.setCell ⟨ab, o + 1, none⟩ .nilFunc) w5 := Fr.grown ((Fr.refl _ _).alloc x) hG (fun x e => .inl e) (owns_cells (hgot.alloc x))
  have hFx : Fr (stS rb cb ab gv) wx (w5.setCell ⟨ab, o + 2, none⟩ gv') := (hF2.up (S' := stS rb cb ab gv) (fun x e => by rcases e with e | e; exact .inl e; exact .inr (.inl e))).trans ((hS.up fun x e => .inr (.inr (.inl e))).trans ((hF4.up fun x e => .inr (.inr (.inr e))).trans (hS6.up fun x e => .inr (.inr (.inl e)))))
  have hFw : Fr (stS rb cb ab gv) w (w5.setCell ⟨ab, o + 2, none⟩ gv') := (hF.up (S' := stS rb cb ab gv) fun x e => .inr (.inr (.inl e))).trans hFx
  have hAS : ∀ k, A k → ¬ stS rb cb ab gv k := fun k hk e => by have := h.apart k hk; rcases e with e | e | e | e; exact this.1 e; exact this.2.1 e; exact this.2.2.1 e; exact this.2.2.2 e
  have hz2 : w.heap.size ≤ w2.heap.size := Nat.le_trans hF.size hF2.size
  have hgl := fun k (e : gv'.ownBlock = some k) => (hrow.lt k e)
  have habl : ab < w.heap.size := h.blk.lt
  refine ⟨tv, .nilFunc, gv', rfl, ((hD2.fr hS (fun e => h.n1 e.symm) (fun e => h.n2 e.symm)).fr hF4 h.g1 h.g2).fr hS6 (fun e => h.n1 e.symm) (fun e => h.n2 e.symm), hB3, hT.fr hFx (fun k hk _ => ⟨hk, hAS k hk⟩), ?_, hFw, .inr ⟨rfl, rfl, ?_⟩⟩
  · have e1 : (a.got ++ [y]).length = a.got.length + 1 := by simp
    have e2 : ints (a.got ++ [y]) = ints a.got ++ [.int .i64 y] := by simp [ints]
    show World.ownsRow _ 0 3 1 gv' (a.got ++ [y]).length (ints (a.got ++ [y]))
    rw [e1, e2]
    refine owns_fr hrow hS6 (fun k e hk => ?_)
    subst hk
    rcases hat with hat | hat
    · rw [hat] at e; exact h.g3 e
    · rw [hat] at e; injection e with e; omega
  · rcases hat with hat | hat
    · exact .inl hat
    · exact .inr ⟨_, hat, by omega⟩
end
end
end Go.Proofs.Ytajccigefoddiaa
