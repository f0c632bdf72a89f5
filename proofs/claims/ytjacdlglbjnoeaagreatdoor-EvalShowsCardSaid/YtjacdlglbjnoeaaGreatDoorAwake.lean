/- The function awake of the statements returns true. -/
import Derived.Test.YtjacdlglbjnoeaaGreatDoorShow1
namespace Go.Proofs.YtjacdlglbjnoeaaGreatDoor
open Go.RowKit

/-- What the statements need of a package-level variable: the words of the handles. -/
def Hand (w : World) : Prop := w.cell? ⟨1, 4, none⟩ = some (.string chanS) ∧ w.cell? ⟨1, 5, none⟩ = some (.string ⟨#[116, 97, 115, 107]⟩) ∧ w.cell? ⟨1, 6, none⟩ = some (.string ⟨#[108, 111, 99, 107]⟩)
theorem Hand.below {w w1 : World} (h : Hand w) (hb : Below w.heap.size w w1) : Hand w1 := ⟨cell_of hb h.1, cell_of hb h.2.1, cell_of hb h.2.2⟩

/-- What a value and a fault that the caller has kept read as, after another call. -/
theorem keepV {w w1 : World} {a b c d e : Value} {t u : TypeId} (hb0 : Below ((w.alloc (.cells #[a, b, c] t)).alloc (.cells #[d, e] u)).heap.size ((w.alloc (.cells #[a, b, c] t)).alloc (.cells #[d, e] u)) w1) :
    Below w.heap.size w w1 ∧ w.heap.size < w1.heap.size ∧ w.heap.size + 1 < w1.heap.size ∧ w1.cell? ⟨w.heap.size, 0, none⟩ = some a ∧ w1.cell? ⟨w.heap.size, 1, none⟩ = some b ∧ w1.cell? ⟨w.heap.size, 2, none⟩ = some c ∧
    w1.cell? ⟨w.heap.size + 1, 0, none⟩ = some d ∧ w1.cell? ⟨w.heap.size + 1, 1, none⟩ = some e := by
  have hs : ((w.alloc (.cells #[a, b, c] t)).alloc (.cells #[d, e] u)).heap.size = w.heap.size + 2 := by simp
  have hz := hb0.size
  have h3 : Below w.heap.size w ((w.alloc (.cells #[a, b, c] t)).alloc (.cells #[d, e] u)) := (one w _).alloc (by simp) _
  have k0 : ∀ o, w1.cell? ⟨w.heap.size, o, none⟩ = #[a, b, c][o]? := fun o =>
    ((hb0.cell (p := ⟨w.heap.size, o, none⟩) (by show w.heap.size < _; omega)).trans ((one (w.alloc (.cells #[a, b, c] t)) _).cell (p := ⟨w.heap.size, o, none⟩) (by simp))).trans (World.cell?_alloc_at _ _ _ _ rfl)
  have k1 : ∀ o, w1.cell? ⟨w.heap.size + 1, o, none⟩ = #[d, e][o]? := fun o =>
    (hb0.cell (p := ⟨w.heap.size + 1, o, none⟩) (by show w.heap.size + 1 < _; omega)).trans (World.cell?_alloc_at _ _ _ _ (by simp))
  exact ⟨h3.trans (hb0.mono h3.size), by omega, by omega, k0 0, k0 1, k0 2, k1 0, k1 1⟩

/-- Dividing: at a divisor other than 0. -/
theorem div_ok (n m : Int) (s t : ByteArray) (w : World) (h1 : validB 1 n s = true) (h2 : validB 1 m t = true) (hs : s.size ≤ 9223372036854775807) (ht : t.size ≤ 9223372036854775807) (hn1 : -1000000000000 ≤ n) (hn2 : n ≤ 1000000000000) (hm : m ≠ 0) :
    Calls Tryz.prog 21 #[.int .i64 18, valV 1 n s, valV 1 m t] w fun e w' => e = .returned (binR 1 (n.tdiv m) noS 0 noS 0) ∧ Below w.heap.size w w' :=
  binary_18 1 n s 1 m t 1 (n.tdiv m) noS 0 noS w h1 h2 hs ht (Lib.hid fun w1 b c hb hc =>
    arith_ok119 (some ⟨c, 0, none⟩) 1 (n.tdiv m) noS 0 noS n m s t b w1 hb (Lib.hid fun w2 hw => divided_div n m c w2 hn1 hn2 hm (cell_of hw hc)))
theorem rem_ok (n m : Int) (s t : ByteArray) (w : World) (h1 : validB 1 n s = true) (h2 : validB 1 m t = true) (hs : s.size ≤ 9223372036854775807) (ht : t.size ≤ 9223372036854775807) (hn1 : -1000000000000 ≤ n) (hn2 : n ≤ 1000000000000) (hm : m ≠ 0) :
    Calls Tryz.prog 21 #[.int .i64 19, valV 1 n s, valV 1 m t] w fun e w' => e = .returned (binR 1 (n.tmod m) noS 0 noS 0) ∧ Below w.heap.size w w' :=
  binary_19 1 n s 1 m t 1 (n.tmod m) noS 0 noS w h1 h2 hs ht (Lib.hid fun w1 b c hb hc =>
    arith_ok119 (some ⟨c, 0, none⟩) 1 (n.tmod m) noS 0 noS n m s t b w1 hb (Lib.hid fun w2 hw => divided_rem n m c w2 hn1 hn2 hm (cell_of hw hc)))
theorem div_zero (n : Int) (s t : ByteArray) (w : World) (h1 : validB 1 n s = true) (h2 : validB 1 0 t = true) (hs : s.size ≤ 9223372036854775807) (ht : t.size ≤ 9223372036854775807) :
    Calls Tryz.prog 21 #[.int .i64 18, valV 1 n s, valV 1 0 t] w fun e w' => e = .returned (binR 0 0 noS 1 zeroS 0) ∧ Below w.heap.size w w' :=
  binary_18 1 n s 1 0 t 0 0 noS 1 zeroS w h1 h2 hs ht (Lib.hid fun w1 b c hb hc =>
    arith_ok119 (some ⟨c, 0, none⟩) 0 0 noS 1 zeroS n 0 s t b w1 hb (Lib.hid fun w2 hw => divided_zero n 91 c w2 (cell_of hw hc)))
theorem rem_zero (n : Int) (s t : ByteArray) (w : World) (h1 : validB 1 n s = true) (h2 : validB 1 0 t = true) (hs : s.size ≤ 9223372036854775807) (ht : t.size ≤ 9223372036854775807) :
    Calls Tryz.prog 21 #[.int .i64 19, valV 1 n s, valV 1 0 t] w fun e w' => e = .returned (binR 0 0 noS 1 zeroS 0) ∧ Below w.heap.size w w' :=
  binary_19 1 n s 1 0 t 0 0 noS 1 zeroS w h1 h2 hs ht (Lib.hid fun w1 b c hb hc =>
    arith_ok119 (some ⟨c, 0, none⟩) 0 0 noS 1 zeroS n 0 s t b w1 hb (Lib.hid fun w2 hw => divided_zero n 92 c w2 (cell_of hw hc)))

theorem val1 {n : Int} (h1 : -1000000000000 ≤ n) (h2 : n ≤ 1000000000000) : validB 1 n noS = true := by
  have : (noS.toList == []) = true := by decide +kernel
  simp [validB, h1, h2]

set_option maxRecDepth 100000 in
set_option maxHeartbeats 4000000 in
theorem awake_any (w : World) (hh : Hand w) : Calls Tryz.prog 18 #[] w fun e w' => e = .returned (.bool true) ∧ Below w.heap.size w w' := by
  have HH := Lib.hid hh
  clear hh
  go_enter Tryz.func18, Tryz.ntmps18
  go_wp2_with fail
  refine (div_ok (-7) 2 noS noS _ (val1 (by omega) (by omega)) (val1 (by omega) (by omega)) (by decide) (by decide) (by omega) (by omega) (by omega)).mono ?_
  rintro e w1 ⟨rfl, hb1⟩
  have H1 := Lib.hid hb1
  clear hb1
  go_wp2_with fail
  refine (rem_zero 1 noS noS _ (val1 (by omega) (by omega)) (val1 (by omega) (by omega)) (by decide) (by decide)).mono ?_
  rintro e w2 ⟨rfl, hb2⟩
  obtain ⟨g2, p0, p1, a0, a1, a2, a3, a4⟩ := keepV hb2
  have A := Lib.hid (And.intro a0 (And.intro a1 (And.intro a2 (And.intro a3 a4))))
  have H2 := Lib.hid (then2 H1.out g2)
  clear hb2 a0 a1 a2 a3 a4 g2 H1
  go_wp2_with fail
  refine (showR_chan5 _ (Hand.below (HH.out.below H2.out) ((one w2 _).alloc (by simp) _)).1).mono ?_
  rintro e w3 ⟨rfl, hb3⟩
  obtain ⟨g3, q0, q1, b0, b1, b2, b3, b4⟩ := keepV hb3
  have B := Lib.hid (And.intro b0 (And.intro b1 (And.intro b2 (And.intro b3 b4))))
  have H3 := Lib.hid (then2 H2.out g3)
  have A' := Lib.hid (And.intro (cell_of g3 A.out.1) (And.intro (cell_of g3 A.out.2.1) (And.intro (cell_of g3 A.out.2.2.1) (And.intro (cell_of g3 A.out.2.2.2.1) (cell_of g3 A.out.2.2.2.2)))))
  clear hb3 b0 b1 b2 b3 b4 g3 H2 A
  go_wp2_with fail
  refine (read_true _).mono ?_
  rintro e w4 ⟨rfl, hb4⟩
  obtain ⟨x0, x1, x2, x3, x4⟩ := A'.out
  obtain ⟨y0, y1, y2, y3, y4⟩ := B.out
  have hz := hb4.size
  have H4 := Lib.hid (then2 H3.out hb4)
  replace x0 := cell_of hb4 x0
  replace x1 := cell_of hb4 x1
  replace x2 := cell_of hb4 x2
  replace x3 := cell_of hb4 x3
  replace x4 := cell_of hb4 x4
  replace y0 := cell_of hb4 y0
  replace y1 := cell_of hb4 y1
  replace y2 := cell_of hb4 y2
  replace y3 := cell_of hb4 y3
  replace y4 := cell_of hb4 y4
  have z0 : w1.heap.size < w4.heap.size := by omega
  have z1 : w1.heap.size + 1 < w4.heap.size := by omega
  have z2 : w2.heap.size < w4.heap.size := by omega
  have z3 : w2.heap.size + 1 < w4.heap.size := by omega
  clear A' B hb4 hz p0 p1 q0 q1
  go_wp2
  go_ret
  exact ⟨rfl, H4.out.alloc H4.out.size _⟩
end Go.Proofs.YtjacdlglbjnoeaaGreatDoor
