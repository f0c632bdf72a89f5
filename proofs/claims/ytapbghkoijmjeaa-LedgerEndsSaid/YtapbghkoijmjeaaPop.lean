/- What pop and Release do. -/
import Derived.Test.YtapbghkoijmjeaaTake
namespace Go.Proofs.Ytapbghkoijmjeaa
set_option linter.unusedVariables false
set_option linter.unusedSimpArgs false
open Go.RowKit Go.Shelf
section
variable {w : World} {own : Own} {lb : Nat} {L : Lay} {t : Ld.T}
set_option maxRecDepth 100000 in
theorem always_any (a : Int) (w : World) : Calls Try.prog 59 #[.int .i64 a] w (still w (.bool true)) := by
  unfold still
  go_enter Try.func59, Try.ntmps59
  go_wp2
  go_ret
  exact ⟨rfl, Below.refl _ _⟩
theorem lastAt_snoc (l : List Nat) (a : Nat) : Ld.lastAt (fun _ => true) (l ++ [a]) = some l.length :=
  lastAt_some (a := a) (by simp) rfl fun j b hj hb => by
    have := (List.getElem?_eq_some_iff.1 hb).1
    simp at this
    omega
def popPost (w : World) (own : Own) (lb : Nat) (t : Ld.T) (k : Nat) (e : Ending) (w' : World) : Prop :=
  (t.hs k = [] ∧ e = .returned (.tuple #[.int .i64 0, .bool false]) ∧ Gone w own lb t w') ∨
  ∃ (l : List Nat) (a : Nat), t.hs k = l ++ [a] ∧ e = .returned (.tuple #[.int .i64 (a : Int), .bool true]) ∧ Gone w own lb (Ld.setH t k l) w'
theorem erase_last (l : List Nat) (a : Nat) : (l ++ [a]).eraseIdx l.length = l := by
  rw [List.eraseIdx_append_of_length_le (Nat.le_refl _)]; simp
set_option maxRecDepth 100000 in
theorem pop_any (h : Rep w own lb L t) {k : Nat} (hk : k < 65) (hlen : (t.hs k).length ≤ 1000) : Calls Try.prog 39 #[ptrH lb k] w (popPost w own lb t k) := by
  have A := Lib.hid (take_any 59 #[] (enters_of Try.func59 (by kernel_rfl) rfl) h hk hlen (fun _ => true) fun W _ a _ => always_any a W)
  unfold takePost at A
  unfold popPost
  rcases List.eq_nil_or_concat (t.hs k) with hn | ⟨l, a, hl⟩
  · have e1 : Ld.lastAt (fun _ => true) (t.hs k) = none := by rw [hn]; rfl
    rw [e1] at A
    simp only at A
    have HN := Lib.hid hn
    clear hn e1 h hlen
    go_enter Try.func39, Try.ntmps39
    go_wp2_with fail
    refine A.out.mono ?_
    rintro e w2 ⟨rfl, hG⟩
    have HG := Lib.hid hG
    clear hG
    go_wp2
    go_ret2
    exact .inl ⟨HN.out, rfl, HG.out⟩
  · rw [List.concat_eq_append] at hl
    have e1 : Ld.lastAt (fun _ => true) (t.hs k) = some l.length := by rw [hl]; exact lastAt_snoc l a
    rw [e1] at A
    simp only at A
    have e2 : (t.hs k).getD l.length 0 = a := by rw [hl]; simp
    have e3 : (t.hs k).eraseIdx l.length = l := by rw [hl]; exact erase_last l a
    rw [e2, e3] at A
    have HN := Lib.hid hl
    clear hl e1 e2 e3 h hlen
    generalize (t.hs k).length - 1 - l.length = d at A
    go_enter Try.func39, Try.ntmps39
    go_wp2_with fail
    refine A.out.mono ?_
    rintro e w2 ⟨rfl, hG⟩
    have HG := Lib.hid hG
    clear hG
    go_wp2
    go_ret2
    exact .inr ⟨l, a, HN.out, rfl, HG.out⟩
set_option maxRecDepth 100000 in
set_option maxHeartbeats 1000000 in
/-- Does an entry have this resource? -/
theorem fits_any (h : Rep w own lb L t) {a : Nat} (ha : a < t.es.length) (hn : t.es.length ≤ 1000) (what : Int) {b1 b2 : Nat} (h1 : w.cell? ⟨b1, 0, none⟩ = some (ptr lb)) (h2 : w.cell? ⟨b2, 0, none⟩ = some (.int .i64 what)) :
    Calls Try.prog 45 #[.int .i64 (a : Int), .pointer (some ⟨b1, 0, none⟩), .pointer (some ⟨b2, 0, none⟩)] w (still w (.bool (Ld.fits t what a))) := by
  obtain ⟨e, he⟩ : ∃ e, t.es[a]? = some e := ⟨_, List.getElem?_eq_getElem ha⟩
  obtain ⟨q, cap, ee, g1, g2, g3⟩ := h.eform
  obtain ⟨g, rfl, -, hg, -, hcell⟩ := g3 (by omega)
  have c1 := h.blk.cell 1 _ rfl
  rw [ee] at c1
  have q0 : w.cell? ⟨g, a * 6, none⟩ = some (.int .i64 e.what) := hcell a e he 0 _ rfl
  have hlt := h.blk.lt
  have l1 := World.block_lt_of_cell? _ _ h1
  have l2 := World.block_lt_of_cell? _ _ h2
  have HE : Hid (Ld.fits t what a = (e.what == what)) := Lib.hid (by unfold Ld.fits; rw [he]; simp only; by_cases hx : e.what = what <;> simp [hx])
  have a1 : (a : Int) < (t.es.length : Int) := by omega
  have a2 : (0 : Int) ≤ (a : Int) := by omega
  have a3 : ((a : Int)).toNat = a := by omega
  unfold still
  rw [HE.out]
  clear h he ee g3 hcell HE
  go_enter Try.func45, Try.ntmps45
  go_wp2_with fail
  go_quiet (fail)
  go_wp2
  go_ret
  exact ⟨rfl, below_drewN (Below.refl _ _) _⟩
end
end Go.Proofs.Ytapbghkoijmjeaa
