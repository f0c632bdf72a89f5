/- The signs: the map that the function signs makes, and what a look-up in it gives; what the method sign returns: the sign that begins at the scanner's position, if there is one. -/
import Derived.Test.YtbhknpombmdhiaaDoorHelp
import Derived.OwnWalk
import Derived.Maps.OwnSet
namespace Go.Proofs.YtbhknpombmdhiaaDoor
open Go.RowKit Go.WideMaps Go.Maps

/-- Block b is a map from the strings of a list to true. -/
def Signs (w : World) (b n : Nat) (L : List (List UInt8)) : Prop :=
  ∃ D : DataW Unit, w.ownsMap Tryd.prog 9 (plainElem Tryd.prog 4) b n D ∧ ∀ l, D.atKey (.string l) (.lit (.bool false)) = .lit (.bool (L.contains l))

theorem keyed9 : Keyed Tryd.prog 9 := string_keyed Tryd.underlying9
theorem zero4 (w : World) : (zeroValue 4).run Tryd.prog w = .ok (.bool false) w := by kernel_rfl

theorem Signs.made (w : World) : Signs (w.alloc (.map #[] 0)) w.heap.size 0 [] :=
  ⟨.map [], World.ownsMap_made _ _ _ _, fun _ => rfl⟩

theorem Signs.step {w : World} {b n : Nat} {L : List (List UInt8)} (h : Signs w b n L) (hn : n < 100) (s : ByteArray) (hs : s.size < 100) :
    ∃ w', (Instr.mapUpdate 54 (.map (some b)) (.string s) (.bool true)).run Tryd.prog w = .ok () w' ∧ Signs w' b (n + 1) (L ++ [s.data.toList]) ∧ w.grownBy w' (some b) := by
  obtain ⟨D, hown, hat⟩ := h
  obtain ⟨w', hrun, hown', hg⟩ := hown.update keyed9 Tryd.underlying54 (by unfold maxLen; omega) (keyOf_string_mk Tryd.underlying9 (show s.size ≤ maxLen by unfold maxLen; omega)) (plainElem_bool Tryd.underlying4 true)
  refine ⟨w', hrun, ⟨_, hown', fun l => ?_⟩, hg⟩
  by_cases e : l = s.data.toList
  · subst e
    rw [atKey_put_same hown.isMap (by simp [WideAt.IsKeyLit])]
    simp
  · rw [atKey_put_other (by intro h; exact e (by injection h)), hat l]
    simp [e]

theorem Signs.look {w : World} {b n : Nat} (h : Signs w b n Lx.signList) (s : ByteArray) (hs : s.size < 4294967281) :
    (Instr.lookup 54 (.map (some b)) (.string s) false).run Tryd.prog w = .ok (.bool (Lx.isSign s.data.toList)) w := by
  obtain ⟨D, hown, hat⟩ := h
  obtain ⟨v, ps, hrun, hv⟩ := hown.lookup keyed9 Tryd.underlying54 (zero4 w) (plainElem_bool Tryd.underlying4 false) (keyOf_string_mk Tryd.underlying9 (show s.size ≤ maxLen by unfold maxLen; omega))
  rw [hat] at hv
  have : v = .bool (Lx.isSign s.data.toList) := by
    cases v <;> simp [plainElem, Tryd.underlying4, Lx.isSign] at hv ⊢
    exact hv.1
  rw [hrun, this]

theorem Signs.kept {w w' : World} {b n : Nat} {L : List (List UInt8)} {row : Option Nat} (h : Signs w b n L) (hg : w.grownBy w' row) (hne : some b ≠ row) : Signs w' b n L := by
  obtain ⟨D, hown, hat⟩ := h
  exact ⟨D, hown.kept hg hne, hat⟩
theorem Signs.below {w w' : World} {b n B : Nat} {L : List (List UInt8)} (h : Signs w b n L) (hg : Below B w w') (hb : b < B) : Signs w' b n L := by
  obtain ⟨D, ⟨es, clock, he, r⟩, hat⟩ := h
  exact ⟨D, ⟨es, clock, (hg.block b hb).trans he, r⟩, hat⟩
theorem Signs.lt {w : World} {b n : Nat} {L : List (List UInt8)} (h : Signs w b n L) : b < w.heap.size := by
  obtain ⟨D, hown, _⟩ := h
  exact hown.lt

set_option maxRecDepth 100000 in
set_option maxHeartbeats 1000000 in
theorem signs_any (w : World) : Calls Tryd.prog 39 #[] w fun e w' => e = .returned (.map (some w.heap.size)) ∧ Signs w' w.heap.size 21 Lx.signList ∧ Below w.heap.size w w' := by
  have hmm := @run_makeMap Tryd.prog
  have s0 := Signs.made w
  have b0 : Below w.heap.size w (w.alloc (.map #[] 0)) := (Below.refl _ _).alloc (Nat.le_refl _) _
  obtain ⟨w1, r0, s1, g1⟩ := s0.step (by omega) ⟨#[40]⟩ (by decide)
  have b1 := b0.grown g1 b0.size (fun k e => by cases e; exact Nat.le_refl _)
  obtain ⟨w2, r1, s2, g2⟩ := s1.step (by omega) ⟨#[41]⟩ (by decide)
  have b2 := b1.grown g2 b1.size (fun k e => by cases e; exact Nat.le_refl _)
  obtain ⟨w3, r2, s3, g3⟩ := s2.step (by omega) ⟨#[123]⟩ (by decide)
  have b3 := b2.grown g3 b2.size (fun k e => by cases e; exact Nat.le_refl _)
  obtain ⟨w4, r3, s4, g4⟩ := s3.step (by omega) ⟨#[125]⟩ (by decide)
  have b4 := b3.grown g4 b3.size (fun k e => by cases e; exact Nat.le_refl _)
  obtain ⟨w5, r4, s5, g5⟩ := s4.step (by omega) ⟨#[44]⟩ (by decide)
  have b5 := b4.grown g5 b4.size (fun k e => by cases e; exact Nat.le_refl _)
  obtain ⟨w6, r5, s6, g6⟩ := s5.step (by omega) ⟨#[59]⟩ (by decide)
  have b6 := b5.grown g6 b5.size (fun k e => by cases e; exact Nat.le_refl _)
  obtain ⟨w7, r6, s7, g7⟩ := s6.step (by omega) ⟨#[61]⟩ (by decide)
  have b7 := b6.grown g7 b6.size (fun k e => by cases e; exact Nat.le_refl _)
  obtain ⟨w8, r7, s8, g8⟩ := s7.step (by omega) ⟨#[61, 61]⟩ (by decide)
  have b8 := b7.grown g8 b7.size (fun k e => by cases e; exact Nat.le_refl _)
  obtain ⟨w9, r8, s9, g9⟩ := s8.step (by omega) ⟨#[33, 61]⟩ (by decide)
  have b9 := b8.grown g9 b8.size (fun k e => by cases e; exact Nat.le_refl _)
  obtain ⟨w10, r9, s10, g10⟩ := s9.step (by omega) ⟨#[60]⟩ (by decide)
  have b10 := b9.grown g10 b9.size (fun k e => by cases e; exact Nat.le_refl _)
  obtain ⟨w11, r10, s11, g11⟩ := s10.step (by omega) ⟨#[60, 61]⟩ (by decide)
  have b11 := b10.grown g11 b10.size (fun k e => by cases e; exact Nat.le_refl _)
  obtain ⟨w12, r11, s12, g12⟩ := s11.step (by omega) ⟨#[62]⟩ (by decide)
  have b12 := b11.grown g12 b11.size (fun k e => by cases e; exact Nat.le_refl _)
  obtain ⟨w13, r12, s13, g13⟩ := s12.step (by omega) ⟨#[62, 61]⟩ (by decide)
  have b13 := b12.grown g13 b12.size (fun k e => by cases e; exact Nat.le_refl _)
  obtain ⟨w14, r13, s14, g14⟩ := s13.step (by omega) ⟨#[43]⟩ (by decide)
  have b14 := b13.grown g14 b13.size (fun k e => by cases e; exact Nat.le_refl _)
  obtain ⟨w15, r14, s15, g15⟩ := s14.step (by omega) ⟨#[45]⟩ (by decide)
  have b15 := b14.grown g15 b14.size (fun k e => by cases e; exact Nat.le_refl _)
  obtain ⟨w16, r15, s16, g16⟩ := s15.step (by omega) ⟨#[42]⟩ (by decide)
  have b16 := b15.grown g16 b15.size (fun k e => by cases e; exact Nat.le_refl _)
  obtain ⟨w17, r16, s17, g17⟩ := s16.step (by omega) ⟨#[47]⟩ (by decide)
  have b17 := b16.grown g17 b16.size (fun k e => by cases e; exact Nat.le_refl _)
  obtain ⟨w18, r17, s18, g18⟩ := s17.step (by omega) ⟨#[37]⟩ (by decide)
  have b18 := b17.grown g18 b17.size (fun k e => by cases e; exact Nat.le_refl _)
  obtain ⟨w19, r18, s19, g19⟩ := s18.step (by omega) ⟨#[33]⟩ (by decide)
  have b19 := b18.grown g19 b18.size (fun k e => by cases e; exact Nat.le_refl _)
  obtain ⟨w20, r19, s20, g20⟩ := s19.step (by omega) ⟨#[38, 38]⟩ (by decide)
  have b20 := b19.grown g20 b19.size (fun k e => by cases e; exact Nat.le_refl _)
  obtain ⟨w21, r20, s21, g21⟩ := s20.step (by omega) ⟨#[124, 124]⟩ (by decide)
  have b21 := b20.grown g21 b20.size (fun k e => by cases e; exact Nat.le_refl _)
  have SS := Lib.hid s21
  have BB := Lib.hid b21
  clear s0 s1 s2 s3 s4 s5 s6 s7 s8 s9 s10 s11 s12 s13 s14 s15 s16 s17 s18 s19 s20 s21 b0 b1 b2 b3 b4 b5 b6 b7 b8 b9 b10 b11 b12 b13 b14 b15 b16 b17 b18 b19 b20 b21 g1 g2 g3 g4 g5 g6 g7 g8 g9 g10 g11 g12 g13 g14 g15 g16 g17 g18 g19 g20 g21
  go_enter Tryd.func39, Tryd.ntmps39
  go_wp2
  go_ret
  exact ⟨rfl, SS.out, BB.out⟩

end Go.Proofs.YtbhknpombmdhiaaDoor
