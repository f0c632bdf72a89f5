/- slices.Equal over entries. -/
import Derived.Test.YtapbghkoijmjeaaNew
namespace Go.Proofs.Ytapbghkoijmjeaa
set_option linter.unusedVariables false
set_option linter.unusedSimpArgs false
open Go.RowKit Go.Shelf
/-- A list of entries lies at an address. -/
def EntsAt (W : World) (p : Option Addr) (l : List Ld.En) : Prop := ∀ (i : Nat) e, l[i]? = some e → ∃ g off, p = some ⟨g, off, none⟩ ∧ g < W.heap.size ∧ ∀ (j : Nat) u, (loC e)[j]? = some u → W.cell? ⟨g, off + (i * 4 + j), none⟩ = some u
def loq (a b : Ld.En) : Bool := a.what == b.what && a.task == b.task && a.frm == b.frm && a.to_ == b.to_
def eqE : List Ld.En → List Ld.En → Bool
  | [], [] => true
  | a :: l, b :: r => loq a b && eqE l r
  | _, _ => false
theorem eqE_len : ∀ {l r : List Ld.En}, eqE l r = true → l.length = r.length
  | [], [], _ => rfl
  | _ :: l, _ :: r, h => by
    simp only [eqE, Bool.and_eq_true] at h
    simp [eqE_len h.2]
  | [], _ :: _, h => by simp [eqE] at h
  | _ :: _, [], h => by simp [eqE] at h
theorem eqE_at : ∀ {l r : List Ld.En} {i : Nat} {a b : Ld.En}, eqE l r = true → l[i]? = some a → r[i]? = some b → loq a b = true
  | x :: l, y :: r, 0, a, b, h, ha, hb => by
    simp only [eqE, Bool.and_eq_true] at h
    simp at ha hb
    subst ha hb
    exact h.1
  | x :: l, y :: r, i + 1, a, b, h, ha, hb => by
    simp only [eqE, Bool.and_eq_true] at h
    exact eqE_at h.2 (by simpa using ha) (by simpa using hb)
  | [], _, i, a, b, h, ha, _ => by simp at ha
  | _ :: _, [], i, a, b, h, _, hb => by simp at hb
theorem eqE_of : ∀ {l r : List Ld.En}, l.length = r.length → (∀ (i : Nat) a b, l[i]? = some a → r[i]? = some b → loq a b = true) → eqE l r = true
  | [], [], _, _ => rfl
  | x :: l, y :: r, hl, h => by
    simp only [eqE, Bool.and_eq_true]
    exact ⟨h 0 x y rfl rfl, eqE_of (by simpa using hl) fun i a b ha hb => h (i + 1) a b (by simpa using ha) (by simpa using hb)⟩
  | [], _ :: _, hl, _ => by simp at hl
  | _ :: _, [], hl, _ => by simp at hl
theorem EntsAt.below {W W' : World} {p : Option Addr} {l : List Ld.En} (h : EntsAt W p l) (hb : Below W.heap.size W W') : EntsAt W' p l := fun i e he => by
  obtain ⟨g, off, h1, h2, h3⟩ := h i e he
  exact ⟨g, off, h1, Nat.lt_of_lt_of_le h2 hb.size, fun j u hu => cell_of hb (h3 j u hu)⟩
theorem LogR.at_ {w wr : World} {p : Option Addr} {n cap : Nat} {l : List Ld.En} (h : LogR w wr (.slice p n cap) l) : EntsAt wr p l := fun i e he => by
  rcases h.1.2 with ⟨h1, h0⟩ | ⟨g, cap', cur, h1, _, hg, _⟩
  · have : i < l.length := (List.getElem?_eq_some_iff.1 he).1
    omega
  · cases h1
    refine ⟨g, 0, rfl, (Array.getElem?_eq_some_iff.1 hg).1, fun j u hu => ?_⟩
    have hj : j < 4 := (List.getElem?_eq_some_iff.1 hu).1
    have := h.1.cells (g := g) rfl (i * 4 + j) u (by rw [flat_get (f := loC) (sz := 4) (fun _ => rfl) l i j e he hj]; exact hu)
    rw [add_off] at this
    exact this
set_option maxRecDepth 100000 in
set_option maxHeartbeats 4000000 in
theorem equalE_any (w : World) (p q : Option Addr) (cp cq : Nat) (l r : List Ld.En) (hl : l.length ≤ 1000) (hr : r.length ≤ 1000) (hp : EntsAt w p l) (hq : EntsAt w q r) :
    Calls Try.prog 30 #[.slice p l.length cp, .slice q r.length cq] w fun e w' => e = .returned (.bool (eqE l r)) ∧ Below w.heap.size w w' := by
  by_cases hn : l.length = r.length
  · obtain ⟨n, hnn⟩ : ∃ n, n = l.length := ⟨_, rfl⟩
    have HN := Lib.hid hnn
    have HR : Hid (r.length = n) := Lib.hid (by omega)
    rw [show r.length = n by omega, ← hnn]
    rw [← hnn] at hl
    have HP := Lib.hid hp
    have HQ := Lib.hid hq
    clear hp hq hn hr hnn
    go_enter Try.func30, Try.ntmps30
    go_wp2_with fail
    go_loopw [13] (fun i wr => ∃ k : Nat, k ≤ n ∧ i = .int .i64 k ∧ (∃ q, wr = w.drewN q) ∧ Hid (∀ (j : Nat) a b, j < k → l[j]? = some a → r[j]? = some b → loq a b = true)) (fun i _ => n - (intOf i).toNat)
    case atStart => exact ⟨0, Nat.zero_le _, rfl, ⟨0, rfl⟩, Lib.hid (by intro j a b hj; omega)⟩
    case round =>
      obtain ⟨k, hk, rfl, ⟨z, rfl⟩, HJ⟩ := hrel
      by_cases hlt : k < n
      · obtain ⟨a, ha⟩ : ∃ a, l[k]? = some a := ⟨_, List.getElem?_eq_getElem (by have := HN.out; omega)⟩
        obtain ⟨b, hb⟩ : ∃ b, r[k]? = some b := ⟨_, List.getElem?_eq_getElem (by have := HR.out; omega)⟩
        obtain ⟨g1, o1, rfl, hg1, hc1⟩ := HP.out k a ha
        obtain ⟨g2, o2, rfl, hg2, hc2⟩ := HQ.out k b hb
        have x0 : w.cell? ⟨g1, o1 + k * 4, none⟩ = some (.int .i64 a.what) := hc1 0 _ rfl
        have x1 : w.cell? ⟨g1, o1 + k * 4 + 1, none⟩ = some (.int .i64 a.task) := hc1 1 _ rfl
        have x2 : w.cell? ⟨g1, o1 + k * 4 + 2, none⟩ = some (.int .i64 a.frm) := hc1 2 _ rfl
        have x3 : w.cell? ⟨g1, o1 + k * 4 + 3, none⟩ = some (.int .i64 a.to_) := hc1 3 _ rfl
        have y0 : w.cell? ⟨g2, o2 + k * 4, none⟩ = some (.int .i64 b.what) := hc2 0 _ rfl
        have y1 : w.cell? ⟨g2, o2 + k * 4 + 1, none⟩ = some (.int .i64 b.task) := hc2 1 _ rfl
        have y2 : w.cell? ⟨g2, o2 + k * 4 + 2, none⟩ = some (.int .i64 b.frm) := hc2 2 _ rfl
        have y3 : w.cell? ⟨g2, o2 + k * 4 + 3, none⟩ = some (.int .i64 b.to_) := hc2 3 _ rfl
        have j1 : (k : Int) < (n : Int) := by omega
        have HA := Lib.hid ha
        have HB := Lib.hid hb
        clear hc1 hc2 ha hb
        by_cases he : loq a b = true
        · have HJ2 : Hid (∀ (j : Nat) a b, j < k + 1 → l[j]? = some a → r[j]? = some b → loq a b = true) := Lib.hid (by
            intro j a' b' hj ha' hb'
            by_cases hjk : j < k
            · exact HJ.out j a' b' hjk ha' hb'
            · obtain rfl : j = k := by omega
              rw [HA.out] at ha'; rw [HB.out] at hb'
              cases ha'; cases hb'
              exact he)
          obtain ⟨a1, a2, a3, a4, a5, a6⟩ := a
          obtain ⟨b1, b2, b3, b4, b5, b6⟩ := b
          have h4 : ((a1 = b1 ∧ a2 = b2) ∧ a3 = b3) ∧ a4 = b4 := by simpa [loq] using he
          obtain ⟨⟨⟨rfl, rfl⟩, rfl⟩, rfl⟩ := h4
          simp only at x0 x1 x2 x3 y0 y1 y2 y3
          clear he HA HB
          go_wp2_with fail
          go_quiet (fail)
          go_wp2_with fail
          exact ⟨⟨k + 1, by omega, by go_num, ⟨_, rfl⟩, HJ2⟩, by simp [intOf]; omega⟩
        · have HE : Hid (eqE l r = false) := Lib.hid (by
            cases h : eqE l r with
            | false => rfl
            | true => exact absurd (eqE_at h HA.out HB.out) he)
          obtain ⟨a1, a2, a3, a4, a5, a6⟩ := a
          obtain ⟨b1, b2, b3, b4, b5, b6⟩ := b
          simp only at x0 x1 x2 x3 y0 y1 y2 y3
          have hd : (a1 ≠ b1) ∨ (a1 = b1 ∧ a2 ≠ b2) ∨ (a1 = b1 ∧ a2 = b2 ∧ a3 ≠ b3) ∨ (a1 = b1 ∧ a2 = b2 ∧ a3 = b3 ∧ a4 ≠ b4) := by
            by_cases h1 : a1 = b1
            · by_cases h2 : a2 = b2
              · by_cases h3 : a3 = b3
                · by_cases h4 : a4 = b4
                  · exact absurd (by simp [loq, h1, h2, h3, h4]) he
                  · exact .inr (.inr (.inr ⟨h1, h2, h3, h4⟩))
                · exact .inr (.inr (.inl ⟨h1, h2, h3⟩))
              · exact .inr (.inl ⟨h1, h2⟩)
            · exact .inl h1
          clear he HA HB
          rcases hd with h1 | ⟨rfl, h1⟩ | ⟨rfl, rfl, h1⟩ | ⟨rfl, rfl, rfl, h1⟩
          · have hx : (a1 == b1) = false := by simpa using h1
            clear h1
            go_wp2_with fail
            go_quiet (fail)
            go_wp2
            go_ret
            exact ⟨by rw [HE.out]; rfl, below_drewN (below_drewN (Below.refl _ _) _) _⟩
          · have hx : (a2 == b2) = false := by simpa using h1
            clear h1
            go_wp2_with fail
            go_quiet (fail)
            go_wp2
            go_ret
            exact ⟨by rw [HE.out]; rfl, below_drewN (below_drewN (Below.refl _ _) _) _⟩
          · have hx : (a3 == b3) = false := by simpa using h1
            clear h1
            go_wp2_with fail
            go_quiet (fail)
            go_wp2
            go_ret
            exact ⟨by rw [HE.out]; rfl, below_drewN (below_drewN (Below.refl _ _) _) _⟩
          · have hx : (a4 == b4) = false := by simpa using h1
            clear h1
            go_wp2_with fail
            go_quiet (fail)
            go_wp2
            go_ret
            exact ⟨by rw [HE.out]; rfl, below_drewN (below_drewN (Below.refl _ _) _) _⟩
      · obtain rfl : k = n := by omega
        have HE : Hid (eqE l r = true) := Lib.hid (eqE_of (by rw [HR.out, HN.out]) fun i a b ha hb => HJ.out i a b (by have := (List.getElem?_eq_some_iff.1 ha).1; have := HN.out; omega) ha hb)
        clear hl
        go_wp2
        go_ret
        exact ⟨by rw [HE.out]; rfl, below_drewN (Below.refl _ _) _⟩
  · have HE : Hid (eqE l r = false) := Lib.hid (by
      cases h : eqE l r with
      | false => rfl
      | true => exact absurd (eqE_len h) hn)
    have hn1 : ((l.length : Int) != (r.length : Int)) = true := by simp; omega
    generalize l.length = n1 at *
    generalize r.length = n2 at *
    clear hp hq hn
    go_enter Try.func30, Try.ntmps30
    go_wp2
    go_ret
    exact ⟨by rw [HE.out]; rfl, Below.refl _ _⟩
end Go.Proofs.Ytapbghkoijmjeaa
