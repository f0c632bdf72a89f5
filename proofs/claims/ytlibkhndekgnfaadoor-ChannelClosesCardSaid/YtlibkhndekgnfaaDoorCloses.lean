/- ChannelCloses: what holds between rounds; where New fails. -/
import Derived.Test.YtlibkhndekgnfaaDoorSteps
namespace Go.Proofs.YtlibkhndekgnfaaDoor
open Go.RowKit

theorem closed_any (w : World) (h : Env w) : Calls Tryd.prog 23 #[] w fun e w' => e = .returned (.agg #[.int .i64 1, .string closedS]) ∧ Below w.heap.size w w' := by
  obtain ⟨h1, h2⟩ := h
  go_enter Tryd.func23, Tryd.ntmps23
  go_wp2
  refine bodyPost_ret (v := .agg #[.int .i64 1, .string closedS]) (by simp [results, Tryd.results23, go_sem]) rfl ?_
  exact ⟨rfl, one _ _⟩
theorem field_wait5 (a b c d e f : Value) (w : World) : Sem.run Tryd.prog (Instr.field 30 (.agg #[a, b, c, d, e, f]) 4) w = .ok e w := by kernel_rfl

def CloRel1 (w : World) (i : Nat) (wr : World) : Prop := ∃ ns c, Own w wr w.heap.size ns c ∧ Below w.heap.size w wr ∧ c.dropped ≤ i

/-- The channel closed, with what was in it before. -/
structure Cls (w : World) (B : Nat) (bf : List Cn.V) (c : Cn.St) (S : Nat) (pb pw pd : Option Addr) (cb cw cd : Nat) (d : Cn.St) (wt : World) : Prop where
  own : Own w wt B [] d
  s3 : wt.cell? ⟨S, 3, none⟩ = some (.slice pb c.buf.length cb)
  s4 : wt.cell? ⟨S, 4, none⟩ = some (.slice pw c.wait.length cw)
  vs : VsAt wt (B + 1) (.slice pb c.buf.length cb) c.buf
  ws : WsAt wt (B + 1) (.slice pw c.wait.length cw) c.wait
  ds : RowAt dealCells 7 57 wt (B + 1) (.slice pd c.wait.length cd) (c.wait.map closedDeal)
  ls : B < S ∧ S < wt.heap.size
  bel : Below w.heap.size w wt
  d1 : d = { c with closed := true, wait := [], buf := bf }
  hb : w.heap.size ≤ B

theorem Cls.fr {w : World} {B S : Nat} {bf : List Cn.V} {c : Cn.St} {pb pw pd : Option Addr} {cb cw cd : Nat} {d d2 : Cn.St} {wt W : World} {bf2 : List Cn.V} (h : Cls w B bf c S pb pw pd cb cw cd d wt) (hF : Fr [B] wt W) (hR : Rep W B [] d2) (hd : d2 = { c with closed := true, wait := [], buf := bf2 }) (he : Env W) : Cls w B bf2 c S pb pw pd cb cw cd d2 W := by
  obtain ⟨own, s3, s4, vs, ws, ds, ls, bel, d1, hb⟩ := h
  have hz := bel.size
  refine ⟨⟨hR, own.ge, he, own.pos, ?_, ?_⟩, ?_, ?_, ?_, ?_, ?_, ?_, ?_, hd, hb⟩
  · subst hd; simp
  · have := own.dr; subst hd d1; exact this
  · rw [hF.cell (p := ⟨S, 3, none⟩) ls.2 (by simp; omega)]; exact s3
  · rw [hF.cell (p := ⟨S, 4, none⟩) ls.2 (by simp; omega)]; exact s4
  · exact RowAt.fr vs hF (fun k hk => by have := RowAt.block vs k hk; simp; omega)
  · exact RowAt.fr ws hF (fun k hk => by have := RowAt.block ws k hk; simp; omega)
  · exact RowAt.fr ds hF (fun k hk => by have := RowAt.block ds k hk; simp; omega)
  · exact ⟨ls.1, by have := hF.size; omega⟩
  · exact bel.trans (hF.below (by simpa using hb) hz)
theorem Cls.below {w : World} {B S : Nat} {bf : List Cn.V} {c : Cn.St} {pb pw pd : Option Addr} {cb cw cd : Nat} {d : Cn.St} {wt W : World} (h : Cls w B bf c S pb pw pd cb cw cd d wt) (hb : Below wt.heap.size wt W) : Cls w B bf c S pb pw pd cb cw cd d W :=
  h.fr (Fr.of_below hb) (h.own.rep.below hb) h.d1 (h.own.env.below hb)

theorem closed_cells {l : List Cn.Wt} {W : World} {base g n cap : Nat} (h : RowAt dealCells 7 57 W base (.slice (some ⟨g, 0, none⟩) n cap) (l.map closedDeal)) {j : Nat} {x : Cn.Wt} (hx : l[j]? = some x) :
    W.cell? ⟨g, j * 7, none⟩ = some (.int .i64 x.t) ∧ W.cell? ⟨g, j * 7 + 1, none⟩ = some (.int .i64 0) ∧ W.cell? ⟨g, j * 7 + 2, none⟩ = some (.int .i64 0) ∧ W.cell? ⟨g, j * 7 + 3, none⟩ = some (.int .i64 0) ∧ W.cell? ⟨g, j * 7 + 4, none⟩ = some (.string noS) ∧ W.cell? ⟨g, j * 7 + 5, none⟩ = some (.int .i64 1) ∧ W.cell? ⟨g, j * 7 + 6, none⟩ = some (.string closedS) := by
  have hy : (l.map closedDeal)[j]? = some (closedDeal x) := by simp [hx]
  exact ⟨RowAt.get h (fun _ => rfl) (i := 0) hy (by omega) rfl, RowAt.get h (fun _ => rfl) (i := 1) hy (by omega) rfl, RowAt.get h (fun _ => rfl) (i := 2) hy (by omega) rfl, RowAt.get h (fun _ => rfl) (i := 3) hy (by omega) rfl, RowAt.get h (fun _ => rfl) (i := 4) hy (by omega) rfl, RowAt.get h (fun _ => rfl) (i := 5) hy (by omega) rfl, RowAt.get h (fun _ => rfl) (i := 6) hy (by omega) rfl⟩

set_option maxRecDepth 100000 in
set_option maxHeartbeats 4000000 in
theorem law_closes_bad (k p : Int) (v : Value) (w : World) (henv : Env w) (h : k < 0 ∨ 16 < k ∨ p < 0 ∨ 2 < p) :
    Calls Tryd.prog 5 #[.int .i64 k, .int .i64 p, v] w fun e w' => e = .returned (.bool true) ∧ Below w.heap.size w w' := by
  have NN := Lib.hid (new_bad k p w h)
  have HE := Lib.hid henv
  clear h henv
  go_enter Tryd.func5, Tryd.ntmps5
  go_wp2_with fail
  refine NN.out.mono ?_
  rintro e w1 ⟨rfl, rfl⟩
  go_wp2_with fail
  refine (awake_any _ HE.out).mono ?_
  rintro e w1 ⟨rfl, hb⟩
  have HB := Lib.hid hb
  clear hb
  go_wp2
  go_ret
  exact ⟨rfl, HB.out⟩
end Go.Proofs.YtlibkhndekgnfaaDoor
