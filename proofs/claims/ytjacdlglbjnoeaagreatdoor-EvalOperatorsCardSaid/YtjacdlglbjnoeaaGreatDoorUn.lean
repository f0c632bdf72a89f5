/- The function Unary, and its operators. -/
import Derived.Test.YtjacdlglbjnoeaaGreatDoorBinDiv
import Derived.Test.YtjacdlglbjnoeaaGreatDoorRefOrd
import Derived.Deep.RegionWith
namespace Go.Proofs.YtjacdlglbjnoeaaGreatDoor
open Go.RowKit
open Go.Maps (Keyed)

theorem wpList_insert_un {w0 w : World} {ops : Array Oper} {rest : List Oper} {o : Oper} {a : Act} {Q : Exit → Act → World → Prop} (hg : o.guard = none) (m x v : Operand) (hop : o.op = Op.insert 86 m x v)
    (bm n : Nat) (l : List (Lit × DataW Value)) (L : List (Nat × Value)) (H : Inv w0 w bm n (.map l) L) (hm : a.eval m = .map (some bm)) (hn : n < maxLen) (key : Int) (val : Value) (hx : a.eval x = .int .i64 key) (hv : a.eval v = val) (hw : (Lit.int .i64 key).wf = true)
    (hl : keysBelow l key)
    (hK : ∀ w', Inv w0 w' bm (n + 1) (.map (l ++ [(.int .i64 key, .held val)])) L → keysBelow (l ++ [(.int .i64 key, .held val)]) (key + 1) → wpList Tryz.prog ops Q rest (a.put o.dst undef) w') :
    wpList Tryz.prog ops Q (o :: rest) a w :=
  wpList_insert_held w hg m x v 86 hop 3 84 key3 Tryz.underlying86 bm n (.map l) hm H.owns hn _ val _ hx hv (keyI key hw) fun w' h1 h2 => hK w' (by rw [put_end key _ l hl] at h1; exact H.fill h1 h2) (keysBelow_snoc hl (by omega))

def UnPost (w0 : World) (e : Ending) (w : World) : Prop := ∃ bm, e = .returned (.map (some bm)) ∧ Inv w0 w bm 2 (.map [(.int .i64 5, .held (fnV 77)), (.int .i64 6, .held (fnV 80))]) []

set_option maxRecDepth 100000 in
theorem unaries_any (w : World) : Calls Tryz.prog 49 #[] w (UnPost w) := by
  have hmm := @run_makeMap Tryz.prog
  go_enter Tryz.func49, Tryz.ntmps49
  have H := Inv.start w
  have HL := keysBelow_nil 5
  go_wp2_with (refine wpList_insert_un rfl _ _ _ rfl _ _ _ _ H rfl (by unfold maxLen; omega) _ _ rfl rfl (by decide) HL ?_; clear H HL; intro w1 H HL)
  go_ret
  exact ⟨_, rfl, H⟩

theorem Inv.held2 {w0 w : World} {bm n : Nat} {L : List (Nat × Value)} {a b : Lit} {v v' : Value} (_ : Inv w0 w bm n (.map [(a, .held v), (b, .held v')]) L) (k : Lit) (z : Value) : ∃ u c, (DataW.map [(a, DataW.held v), (b, .held v')]).atKey k (.held z) = .held u ∧ Maps.has (DataW.map [(a, DataW.held v), (b, .held v')]) k = c := by
  refine ⟨?_, _, ?_, rfl⟩
  · exact if a.sameKey k then v else if b.sameKey k then v' else z
  · unfold DataW.atKey
    cases h1 : a.sameKey k <;> cases h2 : b.sameKey k <;> simp [List.find?, h1, h2]

/-- What three new blocks, the results' variables among them, read as after a call. -/
theorem keep3R {w w1 : World} {a b c : Value} {t : TypeId} {p q r : Value} {u : TypeId} {d e : Value} {x : TypeId} (hb0 : Below (((w.alloc (.cells #[a, b, c] t)).alloc (.cells #[p, q, r] u)).alloc (.cells #[d, e] x)).heap.size (((w.alloc (.cells #[a, b, c] t)).alloc (.cells #[p, q, r] u)).alloc (.cells #[d, e] x)) w1) :
    Below w.heap.size w w1 ∧ (w1.cell? ⟨w.heap.size, 0, none⟩ = some a ∧ w1.cell? ⟨w.heap.size, 1, none⟩ = some b ∧ w1.cell? ⟨w.heap.size, 2, none⟩ = some c) ∧
    (w1.cell? ⟨w.heap.size + 1, 0, none⟩ = some p ∧ w1.cell? ⟨w.heap.size + 1, 1, none⟩ = some q ∧ w1.cell? ⟨w.heap.size + 1, 2, none⟩ = some r) ∧
    (w1.cell? ⟨w.heap.size + 1 + 1, 0, none⟩ = some d ∧ w1.cell? ⟨w.heap.size + 1 + 1, 1, none⟩ = some e) ∧
    (w1.frozen? ⟨w.heap.size + 1, 0, none⟩ = false ∧ w1.frozen? ⟨w.heap.size + 1, 1, none⟩ = false ∧ w1.frozen? ⟨w.heap.size + 1, 2, none⟩ = false) ∧
    (w1.frozen? ⟨w.heap.size + 1 + 1, 0, none⟩ = false ∧ w1.frozen? ⟨w.heap.size + 1 + 1, 1, none⟩ = false) := by
  have h3 : Below w.heap.size w (((w.alloc (.cells #[a, b, c] t)).alloc (.cells #[p, q, r] u)).alloc (.cells #[d, e] x)) := ((one w _).alloc (by simp) _).alloc (by simp; omega) _
  refine ⟨h3.trans (hb0.mono h3.size), ⟨?_, ?_, ?_⟩, ⟨?_, ?_, ?_⟩, ⟨?_, ?_⟩, ⟨?_, ?_, ?_⟩, ⟨?_, ?_⟩⟩
  all_goals first
    | exact cell_of hb0 (by simp [go_sem])
    | exact frz hb0 (by simp [go_sem]; rfl) (by simp [go_sem])
end Go.Proofs.YtjacdlglbjnoeaaGreatDoor
