/- What Copy does. -/
import Derived.Test.YtlibkhndekgnfaaDoorClone2
namespace Go.Proofs.YtlibkhndekgnfaaDoor
open Go.RowKit

theorem info79 : (Tryd.prog.info? 79).map (·.size) = some 55 := by kernel_rfl

def row55 (g : Nat → Value) : List Value := (List.range 55).map g
theorem row55_len (g : Nat → Value) : (row55 g).length = 55 := by simp [row55]
theorem row55_get {g : Nat → Value} {j : Nat} {v : Value} (h : (row55 g)[j]? = some v) : j < 55 ∧ g j = v := by
  have hj : j < 55 := by have := (List.getElem?_eq_some_iff.1 h).1; rwa [row55_len] at this
  refine ⟨hj, ?_⟩
  simpa [row55, hj] using h
theorem Blk.range {W : World} {b : Nat} {g : Nat → Value} (h : Blk W b 55 g) : W.rangeAt b 0 (row55 g) := fun j v hv => by
  obtain ⟨hj, e⟩ := row55_get hv
  rw [Nat.zero_add, h.cell j hj, e]
theorem Blk.there {W : World} {b n : Nat} {g : Nat → Value} (h : Blk W b n g) : W.there b 0 n := fun j hj => by
  rw [Nat.zero_add]
  exact ⟨by rw [h.cell j hj]; rfl, h.fz j⟩
theorem Blk.setRow : ∀ {vs : List Value} {W : World} {b o n : Nat} {g : Nat → Value}, Blk W b n g → o + vs.length ≤ n → ∃ g', Blk (W.setCells b o vs) b n g' ∧ (∀ j v, vs[j]? = some v → g' (o + j) = v) ∧ ∀ x, x < o → g' x = g x
  | [], W, b, o, n, g, h, _ => ⟨g, h, fun j v hv => by simp at hv, fun _ _ => rfl⟩
  | v :: r, W, b, o, n, g, h, hl => by
    simp at hl
    obtain ⟨g', h1, h2, h3⟩ := Blk.setRow (vs := r) (o := o + 1) (h.set (o := o) (by omega) v) (by omega)
    refine ⟨g', h1, fun j u hu => ?_, fun x hx => ?_⟩
    · cases j with
      | zero =>
        have e : v = u := by simpa using hu
        subst e
        rw [Nat.add_zero, h3 o (by omega), upd_same]
      | succ j =>
        have := h2 j u (by simpa using hu)
        rw [← this]; congr 1; omega
    · rw [h3 x (by omega), upd_other _ _ (by omega)]
theorem Blk.setRows {W : World} {b : Nat} {g g0 : Nat → Value} (h : Blk W b 55 g0) : Blk (W.setCells b 0 (row55 g)) b 55 g := by
  obtain ⟨g', h1, h2, -⟩ := Blk.setRow (vs := row55 g) (o := 0) h (by rw [row55_len]; omega)
  refine h1.ext fun o ho => ?_
  have := h2 o (g o) (by simp [row55, ho])
  rwa [Nat.zero_add] at this
theorem fr_setCells : ∀ {vs : List Value} {W A : World} {b o : Nat} {L : List Nat}, Fr L A W → (b ∈ L ∨ A.heap.size ≤ b) → Fr L A (W.setCells b o vs)
  | [], _, _, _, _, _, h, _ => h
  | v :: r, W, A, b, o, L, h, hb => fr_setCells (vs := r) (h.set hb o v) hb

def copyPost (w : World) (c : Cn.St) (e : Ending) (w' : World) : Prop :=
  ∃ d ms, e = .returned (.pointer (some ⟨d, 0, none⟩)) ∧ Rep w' d ms c ∧ (∀ x ∈ d :: ms, w.heap.size ≤ x) ∧ Below w.heap.size w w'

set_option maxRecDepth 100000 in
set_option maxHeartbeats 4000000 in
theorem copy_any (b : Nat) (ns : List Nat) (c : Cn.St) (w : World) (h : Rep w b ns c) :
    Calls Tryd.prog 21 #[.pointer (some ⟨b, 0, none⟩)] w (copyPost w c) := by
  obtain ⟨g, f, hb, hg⟩ := h.ex
  have H := Lib.hid h
  have HG := Lib.hid hg
  have HB := Lib.hid hb
  have HR := Lib.hid hb.range
  have hlt := hb.lt
  have H1 : Hid ((row55 g).toArray.all (·.oneCell') = true) := Lib.hid (all_oneCell_toArray fun v hv => by
    obtain ⟨j, hj, rfl⟩ := List.getElem_of_mem hv
    obtain ⟨h1, h2⟩ := row55_get (List.getElem?_eq_getElem hj)
    rw [← h2]; exact hg.one j h1)
  have HZ : Hid (∀ Z : Array Value, Z.size = 55 → Blk ((w.alloc (.cells Z 79)).setCells w.heap.size 0 (row55 g)) w.heap.size 55 g ∧ Below w.heap.size w ((w.alloc (.cells Z 79)).setCells w.heap.size 0 (row55 g))) := Lib.hid fun Z hZ => by
    have hn := Blk.new w Z 79
    rw [hZ] at hn
    refine ⟨hn.setRows, ?_⟩
    exact (fr_setCells (L := [w.heap.size]) ((Fr.refl _ w).alloc _) (.inl (by simp))).below (by simp) (Nat.le_refl _)
  have HT : Hid (∀ Z : Array Value, Z.size = 55 → (w.alloc (.cells Z 79)).there w.heap.size 0 (row55 g).toArray.size) := Lib.hid fun Z hZ => by
    have hn := (Blk.new w Z 79).there
    rw [hZ] at hn
    rw [show (row55 g).toArray.size = 55 by simp [row55]]; exact hn
  have HC : Hid (∀ Z : Array Value, Z.size = 55 → Calls Tryd.prog 47 #[.pointer (some ⟨b, 53, none⟩)] ((w.alloc (.cells Z 79)).setCells w.heap.size 0 (row55 g)) fun e w3 =>
      ∃ ms, e = .returned (.agg #[.pointer (ptrAt ms 0)]) ∧ Chain w3 ms c.wait ∧ ms.Nodup ∧ (∀ x ∈ ms, w.heap.size < x) ∧ Blk w3 w.heap.size 55 g ∧ Below w.heap.size w w3) := Lib.hid fun Z hZ => by
    obtain ⟨hz1, hz2⟩ := HZ.out Z hZ
    have hlb := hz1.lt
    refine ((callsIn_wide (n := 3)).1 (clone_in 3 (by omega) b ns c.wait _ (List.nodup_cons.1 h.nd).2 (by omega) ?_ (h.below hz2).chain)).mono ?_
    · exact cell_of hz2 (by rw [hb.cell 53 (by omega), hg.g53])
    · rintro e w3 ⟨ms, rfl, h1, h2, h3, h4⟩
      exact ⟨ms, rfl, h1, h2, fun x hx => by have := h3 x hx; omega, hz1.below h4 hlb, hz2.trans (h4.mono (by omega))⟩
  clear h hb hg
  go_enter Tryd.func21, Tryd.ntmps21
  go_wp2_with (first | (with_reducible refine wpList_load_mid rfl 79 (.tmp 7) rfl b 0 rfl (row55 g) _ HR.out Tryd.underlying79 rfl (by rw [row55_len]; exact info79) ?_) | ((with_reducible refine wpList_store_mid rfl 79 (.tmp 3) (.tmp 8) rfl w.heap.size 0 (row55 g).toArray rfl rfl (HT.out _ rfl) (by rw [show (row55 g).toArray.size = 55 by simp [row55]]; exact info79) H1.out ?_); rw [show (row55 g).toArray.toList = row55 g from rfl]))
  refine (HC.out _ rfl).mono ?_
  rintro e w3 ⟨ms, rfl, h1, h2, h3, h4, h5⟩
  have d53 := h4.cell 53 (by omega)
  have z53 := h4.fz 53
  have hl3 := h4.lt
  have HP := Lib.hid (And.intro h1 (And.intro h2 (And.intro h3 (And.intro h4 h5))))
  clear h1 h2 h3 h4 h5
  go_wp2
  go_ret
  obtain ⟨h1, h2, h3, h4, h5⟩ := HP.out
  refine ⟨w.heap.size, ms, rfl, ⟨⟨_, f, h4.set (by omega) _, HG.out.next ms c.wait⟩, h1.set_other (fun hm => by have := h3 _ hm; omega) _, List.nodup_cons.2 ⟨fun hm => by have := h3 _ hm; omega, h2⟩⟩, ?_, h5.setCell (p := ⟨w.heap.size, 53, none⟩) (Nat.le_refl _) _⟩
  intro x hx
  rcases List.mem_cons.1 hx with rfl | hx
  · exact Nat.le_refl _
  · exact Nat.le_of_lt (h3 x hx)
end Go.Proofs.YtlibkhndekgnfaaDoor
