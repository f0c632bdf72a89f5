/- A race in memory: the deque. -/
import Derived.Test.YtajccigefoddiaaInv
namespace Go.Proofs.Ytajccigefoddiaa
set_option linter.unusedVariables false
set_option linter.unusedSimpArgs false
open Go.RowKit
def still (w : World) (v : Value) (e : Ending) (w' : World) : Prop := e = .returned v ∧ Below w.heap.size w w'
def same (w : World) (v : Value) (e : Ending) (w' : World) : Prop := e = .returned v ∧ w = w'
abbrev ptr (b : Nat) : Value := .pointer (some ⟨b, 0, none⟩)
abbrev natV (n : Nat) : Value := .int .i64 (n : Int)
def ints (l : List Int) : List Value := l.map (Value.int .i64)
theorem ints_get {l : List Int} {i : Nat} (h : i < l.length) : (ints l)[i]? = some (.int .i64 (l.getD i 0)) := by
  unfold ints
  rw [List.getElem?_map, List.getElem?_eq_getElem h, List.getD_eq_getElem?_getD, List.getElem?_eq_getElem h]; rfl
/-- The capacity of the deque's slice. -/
def capAt (W : World) (rb : Nat) : Nat := match W.cell? ⟨rb, 0, none⟩ with
  | some (.slice _ _ c) => c
  | _ => 0
theorem cap_at {W : World} {rb n c : Nat} {a : Option Addr} (h : W.cell? ⟨rb, 0, none⟩ = some (.slice a n c)) : capAt W rb = c := by unfold capAt; rw [h]
theorem Blk.recap {W : World} {rb n c : Nat} {a : Option Addr} {l : List Value} (h : Blk W rb (.slice a n c :: l)) : Blk W rb (.slice a n (capAt W rb) :: l) := by rw [cap_at (h.cell 0 _ rfl)]; exact h
/-- The deque lies in a race's block and in that of its cells. -/
structure Dr (W : World) (rb cb : Nat) (av : Value) (d : St.Dq) : Prop where
  blk : Blk W rb [.slice (some ⟨cb, 0, none⟩) d.cells.length (capAt W rb), natV d.top, .int .i64 d.bottom, av]
  cel : Blk W cb (ints d.cells)
  ne : rb ≠ cb
  n0 : 0 < d.cells.length
  n16 : d.cells.length ≤ 16
  top : d.top ≤ 100000
  bot : -1 ≤ d.bottom
  bot2 : d.bottom ≤ 100000
/-- A captured variable, that is never written again. -/
structure Cst (W : World) (A : Nat → Prop) (a : Nat) (v : Value) : Prop where
  ok : A a
  lt : a < W.heap.size
  cell : W.cell? ⟨a, 0, none⟩ = some v
def PhAt (W : World) (A : Nat → Prop) (v : Value) : Option St.Ph → Prop
  | none => v = .nilFunc
  | some (.look x) => v = .func (.func 116) #[.int .i64 x] #[]
  | some (.write x) => v = .func (.func 117) #[.int .i64 x] #[]
  | some (.raise x) => v = .func (.func 118) #[.int .i64 x] #[]
  | some .lower => v = .func (.func 111) #[] #[]
  | some .compare => v = .func (.func 112) #[] #[]
  | some .readLast => v = .func (.func 113) #[] #[]
  | some (.last t x) => ∃ a b, v = .func (.func 114) #[] #[ptr a, ptr b] ∧ Cst W A a (natV t) ∧ Cst W A b (.int .i64 x)
  | some .aim => v = .func (.func 120) #[] #[]
  | some (.bound t) => ∃ a, v = .func (.func 121) #[] #[ptr a] ∧ Cst W A a (natV t)
  | some (.reach t) => ∃ a, v = .func (.func 123) #[] #[ptr a] ∧ Cst W A a (natV t)
  | some (.claim t x) => ∃ a b, v = .func (.func 124) #[] #[ptr a, ptr b] ∧ Cst W A a (natV t) ∧ Cst W A b (.int .i64 x)
/-- What a step asks of the numbers. -/
def PhPre (d : St.Dq) : St.Ph → Prop
  | .write _ => 0 ≤ d.bottom
  | .readLast => 0 ≤ d.bottom
  | .last t _ => t ≤ 100000
  | .bound t => t ≤ 100000
  | .reach t => t ≤ 100000
  | .claim t _ => t ≤ 100000
  | .raise _ => d.bottom < 100000
  | .lower => 0 ≤ d.bottom
  | _ => True
section
variable {W W' w : World} {rb cb : Nat} {av : Value} {d : St.Dq}
theorem Cst.fr {A : Nat → Prop} {a : Nat} {v : Value} (h : Cst W A a v) {S : Nat → Prop} (hF : Fr S W W') {A' : Nat → Prop} (hA : ∀ k, A k → k < W.heap.size → A' k ∧ ¬ S k) : Cst W' A' a v :=
  ⟨(hA a h.ok h.lt).1, Nat.lt_of_lt_of_le h.lt hF.size, (hF.cell (p := ⟨a, 0, none⟩) h.lt (hA a h.ok h.lt).2).trans h.cell⟩
theorem PhAt.fr {A : Nat → Prop} {v : Value} {o : Option St.Ph} (h : PhAt W A v o) {S : Nat → Prop} (hF : Fr S W W') {A' : Nat → Prop} (hA : ∀ k, A k → k < W.heap.size → A' k ∧ ¬ S k) : PhAt W' A' v o := by
  cases o with
  | none => exact h
  | some p =>
    cases p with
    | last t x => obtain ⟨a, b, e, h1, h2⟩ := h; exact ⟨a, b, e, h1.fr hF hA, h2.fr hF hA⟩
    | bound t => obtain ⟨a, e, h1⟩ := h; exact ⟨a, e, h1.fr hF hA⟩
    | reach t => obtain ⟨a, e, h1⟩ := h; exact ⟨a, e, h1.fr hF hA⟩
    | claim t x => obtain ⟨a, b, e, h1, h2⟩ := h; exact ⟨a, b, e, h1.fr hF hA, h2.fr hF hA⟩
    | _ => exact h
theorem Dr.fr (h : Dr W rb cb av d) {S : Nat → Prop} (hF : Fr S W W') (h1 : ¬ S rb) (h2 : ¬ S cb) : Dr W' rb cb av d :=
  ⟨(h.blk.fr hF h1).recap, h.cel.fr hF h2, h.ne, h.n0, h.n16, h.top, h.bot, h.bot2⟩
theorem Dr.below (h : Dr W rb cb av d) (hb : Below W.heap.size W W') : Dr W' rb cb av d := h.fr (S := none_) (Fr.of_below hb) (fun h => h) (fun h => h)
theorem run_rem (p n m : Nat) (hn : 0 < n) (hm : p % n = m) (w : World) : (binOp .rem 3 (natV p) (natV n)).run Try.prog w = .ok (natV m) w := by
  have h0 : (n : Int) ≠ 0 := by omega
  have h1 : (p : Int).tmod (n : Int) = (m : Int) := by
    rw [Int.tmod_eq_emod_of_nonneg (by omega), ← hm]; exact (Int.natCast_emod p n).symm
  have h2 : ¬ n = 0 := by omega
  simp [binOp, Op.intDiv, h2, h1, go_sem]
theorem tmod_nat (p n m : Nat) (hm : p % n = m) : (p : Int).tmod (n : Int) = (m : Int) := by
  rw [Int.tmod_eq_emod_of_nonneg (by omega), ← hm]; exact (Int.natCast_emod p n).symm
theorem mod_fact (p n : Nat) (hn : 0 < n) (hn2 : n ≤ 16) (hp : p ≤ 1000000) : wrap64 ((p : Int).tmod (n : Int)) = ((p % n : Nat) : Int) := by
  have h1 : (p : Int).tmod (n : Int) = ((p % n : Nat) : Int) := by
    rw [Int.tmod_eq_emod_of_nonneg (by omega)]; exact (Int.natCast_emod p n).symm
  rw [h1]
  have := Nat.mod_lt p hn
  unfold wrap64; omega
set_option maxRecDepth 100000 in
theorem cell_any (h : Dr w rb cb av d) (p : Nat) (hp : p ≤ 1000000) : Calls Try.prog 50 #[ptr rb, natV p] w (still w (.pointer (some ⟨cb, d.place p, none⟩))) := by
  unfold still St.Dq.place
  have c0 := h.blk.cell 0 _ rfl
  have e1 := mod_fact p d.cells.length h.n0 h.n16 hp
  have h1 := Nat.mod_lt p h.n0
  have hlt := h.blk.lt
  have hn := h.n16
  have hn0 := h.n0
  generalize d.cells.length = n at *
  generalize hm : p % n = m at *
  have j1 : (m : Int) < (n : Int) := by omega
  have j2 : (n : Int) ≠ 0 := by omega
  have j3 : ¬ n = 0 := by omega
  have j4 : (n = 0) = False := by simp; omega
  have e2 := tmod_nat p n m hm
  clear hm h
  go_enter Try.func50, Try.ntmps50
  go_wp2_with fail
  go_quiet (fail)
  go_wp2
  go_ret
  exact ⟨rfl, below_drewN (Below.refl _ _) _⟩
end
end Go.Proofs.Ytajccigefoddiaa
