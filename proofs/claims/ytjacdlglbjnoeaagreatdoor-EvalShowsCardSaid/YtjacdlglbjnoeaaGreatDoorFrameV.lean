/- Values and faults as arguments: what an argument that reads as one is, and that it reads so again. -/
import Derived.Test.YtjacdlglbjnoeaaGreatDoorFrame
namespace Go.Proofs.YtjacdlglbjnoeaaGreatDoor
open Go.ChangeShapes Go.WideShapes Go.ChangeAt Go.RowKit
open Go.ChangeMaps (open_string shut_string)

theorem cells29 : Tryz.prog.cellsOf 29 = 3 := by kernel_rfl
theorem cells31 : Tryz.prog.cellsOf 31 = 2 := by kernel_rfl
theorem cells3 : Tryz.prog.cellsOf 3 = 1 := by kernel_rfl
theorem cells9 : Tryz.prog.cellsOf 9 = 1 := by kernel_rfl

section
variable {H : Type} {enc : TypeId × Value → H} {w : World} {base b0 : Nat} {sp : Nat → Bool} {held : Bool} {r : Reach} {v : Value} {d : DataW H} {ps : List MemPlace}

set_option maxRecDepth 100000 in
theorem open_val (hval : Value.okWide Tryz.prog w r b0 29 v) (hd : DataW.Trod enc Tryz.prog w base sp held 29 v d ps) :
    ∃ (k n : Int) (s : ByteArray), v = valV k n s ∧ d = .agg [.lit (.int .i64 k), .lit (.int .i64 n), .lit (.string s.data.toList)] ∧ ps = [] ∧ (Lit.int .i64 k).wf = true ∧ (Lit.int .i64 n).wf = true ∧ s.size ≤ maxLen := by
  obtain ⟨cs, rfl, hsz⟩ := okWide_struct Tryz.underlying29 hval
  rw [cells29] at hsz
  obtain ⟨l⟩ := cs
  match l, hsz with
  | [c0, c1, c2], _ =>
    obtain ⟨fuel, hf⟩ := hd
    obtain ⟨xs, m, rfl, hx, _, hl, hel⟩ := DataW.trod_struct Tryz.underlying29 hf
    match xs, hl with
    | [x0, x1, x2], _ =>
      have e0 : DataW.trod enc Tryz.prog w base sp held m 3 (([c0, c1, c2].drop 0).take (Tryz.prog.cellsOf 3)) = some x0 := hel 0 _ rfl
      have e1 : DataW.trod enc Tryz.prog w base sp held m 3 (([c0, c1, c2].drop 1).take (Tryz.prog.cellsOf 3)) = some x1 := hel 1 _ rfl
      have e2 : DataW.trod enc Tryz.prog w base sp held m 9 (([c0, c1, c2].drop 2).take (Tryz.prog.cellsOf 9)) = some x2 := hel 2 _ rfl
      rw [cells3] at e0 e1
      rw [cells9] at e2
      obtain ⟨k, h0, hx0, wk⟩ := DataW.trod_int Tryz.underlying3 e0
      obtain ⟨n, h1, hx1, wn⟩ := DataW.trod_int Tryz.underlying3 e1
      obtain ⟨s, h2, hx2, ws⟩ := DataW.trod_string Tryz.underlying9 e2
      simp [] at h0 h1 h2
      subst h0 h1 h2 hx0 hx1 hx2
      simp only [Prod.mk.injEq] at hx
      exact ⟨k, n, s, rfl, by simpa using hx.1, by simpa using hx.2, wk, wn, ws⟩

set_option maxRecDepth 100000 in
theorem shut_val {k n : Int} {s : ByteArray} (wk : (Lit.int .i64 k).wf = true) (wn : (Lit.int .i64 n).wf = true) (ws : s.size ≤ maxLen) :
    DataW.Trod enc Tryz.prog w base sp held 29 (valV k n s) (.agg [.lit (.int .i64 k), .lit (.int .i64 n), .lit (.string s.data.toList)]) [] := by
  exact ⟨2, by simp [DataW.trod, Value.cells, Tryz.underlying29, Tryz.underlying3, Tryz.underlying9, cells29, cells3, cells9, wk, wn, ws]⟩

set_option maxRecDepth 100000 in
theorem open_fault (hval : Value.okWide Tryz.prog w r b0 31 v) (hd : DataW.Trod enc Tryz.prog w base sp held 31 v d ps) :
    ∃ (k : Int) (s : ByteArray), v = .agg #[.int .i64 k, .string s] ∧ d = .agg [.lit (.int .i64 k), .lit (.string s.data.toList)] ∧ ps = [] ∧ (Lit.int .i64 k).wf = true ∧ s.size ≤ maxLen := by
  obtain ⟨cs, rfl, hsz⟩ := okWide_struct Tryz.underlying31 hval
  rw [cells31] at hsz
  obtain ⟨l⟩ := cs
  match l, hsz with
  | [c0, c1], _ =>
    obtain ⟨fuel, hf⟩ := hd
    obtain ⟨xs, m, rfl, hx, _, hl, hel⟩ := DataW.trod_struct Tryz.underlying31 hf
    match xs, hl with
    | [x0, x1], _ =>
      have e0 : DataW.trod enc Tryz.prog w base sp held m 3 (([c0, c1].drop 0).take (Tryz.prog.cellsOf 3)) = some x0 := hel 0 _ rfl
      have e1 : DataW.trod enc Tryz.prog w base sp held m 9 (([c0, c1].drop 1).take (Tryz.prog.cellsOf 9)) = some x1 := hel 1 _ rfl
      rw [cells3] at e0
      rw [cells9] at e1
      obtain ⟨k, h0, hx0, wk⟩ := DataW.trod_int Tryz.underlying3 e0
      obtain ⟨s, h1, hx1, ws⟩ := DataW.trod_string Tryz.underlying9 e1
      simp [] at h0 h1
      subst h0 h1 hx0 hx1
      simp only [Prod.mk.injEq] at hx
      exact ⟨k, s, rfl, by simpa using hx.1, by simpa using hx.2, wk, ws⟩

set_option maxRecDepth 100000 in
theorem shut_fault {k : Int} {s : ByteArray} (wk : (Lit.int .i64 k).wf = true) (ws : s.size ≤ maxLen) :
    DataW.Trod enc Tryz.prog w base sp held 31 (.agg #[.int .i64 k, .string s]) (.agg [.lit (.int .i64 k), .lit (.string s.data.toList)]) [] := by
  exact ⟨2, by simp [DataW.trod, Value.cells, Tryz.underlying31, Tryz.underlying3, Tryz.underlying9, cells31, cells3, cells9, wk, ws]⟩
end
end Go.Proofs.YtjacdlglbjnoeaaGreatDoor
