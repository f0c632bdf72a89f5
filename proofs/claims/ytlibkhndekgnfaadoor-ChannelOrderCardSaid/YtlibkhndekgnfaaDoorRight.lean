/- Which waiter is the right one. -/
import Derived.Test.YtlibkhndekgnfaaDoorRep
namespace Go.Proofs.YtlibkhndekgnfaaDoor
open Go.RowKit

abbrev noS : ByteArray := ⟨#[]⟩
abbrev valV (k n : Int) (s : ByteArray) : Value := .agg #[.int .i64 k, .int .i64 n, .string s]
abbrev wtV (t : Int) (b : Bool) (k n : Int) (s : ByteArray) : Value := .agg #[.int .i64 t, .bool b, .int .i64 k, .int .i64 n, .string s]

theorem one (w : World) (o : Obj) : Below w.heap.size w (w.alloc o) := (Below.refl _ _).alloc (Nat.le_refl _) _

theorem isReceiver_any (t : Int) (b : Bool) (k n : Int) (s : ByteArray) (w : World) :
    Calls Tryd.prog 40 #[wtV t b k n s] w fun e w' => e = .returned (.bool (!b)) ∧ Below w.heap.size w w' := by
  go_enter Tryd.func40, Tryd.ntmps40
  go_wp2
  go_ret
  exact ⟨rfl, one _ _⟩
theorem isSender_any (t : Int) (b : Bool) (k n : Int) (s : ByteArray) (w : World) :
    Calls Tryd.prog 42 #[wtV t b k n s] w fun e w' => e = .returned (.bool b) ∧ Below w.heap.size w w' := by
  go_enter Tryd.func42, Tryd.ntmps42
  go_wp2
  go_ret
  exact ⟨rfl, one _ _⟩
theorem isTicket_any (t u : Int) (b : Bool) (k n : Int) (s : ByteArray) (B : Nat) (w : World) (hB : w.cell? ⟨B, 0, none⟩ = some (.int .i64 u)) (hlt : B < w.heap.size) :
    Calls Tryd.prog 46 #[wtV t b k n s, .pointer (some ⟨B, 0, none⟩)] w fun e w' => e = .returned (.bool (t == u)) ∧ Below w.heap.size w w' := by
  go_enter Tryd.func46, Tryd.ntmps46
  go_wp2
  go_ret
  exact ⟨rfl, one _ _⟩

/-- The number of a link. -/
def linkIdx (b : Nat) (ns : List Nat) : Value → Nat
  | .pointer (some a) => if a.block = b then 0 else ns.idxOf a.block + 1
  | _ => 0
theorem idxOf_nodup : ∀ {l : List Nat}, l.Nodup → ∀ {k m : Nat}, l[k]? = some m → l.idxOf m = k
  | [], _, _, _, h => by simp at h
  | a :: l, hn, k, m, h => by
    have hc := List.nodup_cons.1 hn
    cases k with
    | zero =>
      have e : a = m := by simpa using h
      subst e; simp
    | succ k =>
      have h' : l[k]? = some m := by simpa using h
      have hne : a ≠ m := fun e => hc.1 (e ▸ List.mem_of_getElem? h')
      have hb : (a == m) = false := by simpa using hne
      rw [List.idxOf_cons, hb, idxOf_nodup hc.2 h']
      rfl
theorem linkIdx_at {b : Nat} {ns : List Nat} (h : (b :: ns).Nodup) {k : Nat} (hk : k ≤ ns.length) : linkIdx b ns (.pointer (some (linkAt b ns k))) = k := by
  have hc := List.nodup_cons.1 h
  cases k with
  | zero => simp [linkIdx, linkAt]
  | succ k =>
    have e : ns[k]? = some (ns[k]'(by omega)) := List.getElem?_eq_getElem _
    have hne : ns[k]'(by omega) ≠ b := fun e' => hc.1 (e' ▸ List.getElem_mem _)
    simp only [linkIdx, linkAt, e, Option.getD_some, if_neg hne]
    rw [idxOf_nodup hc.2 e]

/-- What lies where a link is: the pointer to the next node. -/
theorem Rep.link {W : World} {b : Nat} {ns : List Nat} {c : Cn.St} (h : Rep W b ns c) {k : Nat} (hk : k ≤ ns.length) :
    ∃ lb lo, linkAt b ns k = ⟨lb, lo, none⟩ ∧ W.cell? ⟨lb, lo, none⟩ = some (.pointer (ptrAt ns k)) ∧ W.frozen? ⟨lb, lo, none⟩ = false ∧ lb < W.heap.size ∧ (∀ m, ns[k]? = some m → lb ≠ m) ∧ lb ∈ b :: ns := by
  obtain ⟨g, f, hb, hg⟩ := h.ex
  have hc := List.nodup_cons.1 h.nd
  cases k with
  | zero => exact ⟨b, 53, rfl, by rw [hb.cell 53 (by omega), hg.g53], hb.fz 53, hb.lt, fun m hm e => hc.1 (e ▸ List.mem_of_getElem? hm), by simp⟩
  | succ k =>
    have e : ns[k]? = some (ns[k]'(by omega)) := List.getElem?_eq_getElem _
    have ew : c.wait[k]? = some (c.wait[k]'(by have := h.chain.len; omega)) := List.getElem?_eq_getElem _
    have hn := h.chain.node k _ _ e ew
    refine ⟨ns[k]'(by omega), 5, by simp [linkAt, e], ?_, hn.fz 5, hn.lt, fun m hm e' => ?_, by simp⟩
    · rw [hn.cell 5 (by omega)]; rfl
    · have := nodup_getElem? hc.2 hm (e' ▸ e); omega
/-- The cells of a node. -/
theorem Chain.cells {W : World} {ns : List Nat} {ws : List Cn.Wt} (h : Chain W ns ws) {k m : Nat} {w : Cn.Wt} (hm : ns[k]? = some m) (hw : ws[k]? = some w) :
    W.cell? ⟨m, 0, none⟩ = some (.int .i64 w.t) ∧ W.cell? ⟨m, 1, none⟩ = some (.bool w.send) ∧ W.cell? ⟨m, 2, none⟩ = some (.int .i64 w.v.k) ∧ W.cell? ⟨m, 3, none⟩ = some (.int .i64 w.v.n) ∧
    W.cell? ⟨m, 4, none⟩ = some (.string w.v.s) ∧ W.cell? ⟨m, 5, none⟩ = some (.pointer (ptrAt ns (k + 1))) ∧ m < W.heap.size :=
  have hn := h.node k m w hm hw
  ⟨hn.cell 0 (by omega), hn.cell 1 (by omega), hn.cell 2 (by omega), hn.cell 3 (by omega), hn.cell 4 (by omega), hn.cell 5 (by omega), hn.lt⟩
theorem cell_of {w w1 : World} {p : Addr} {v : Value} (hb : Below w.heap.size w w1) (h : w.cell? p = some v) : w1.cell? p = some v := by
  refine (hb.cell (p := p) ?_).trans h
  by_cases hl : p.block < w.heap.size
  · exact hl
  · have : w.heap[p.block]? = none := by simp; omega
    simp [World.cell?, this] at h
theorem kept1 {w wr : World} {a0 : Value} {t : TypeId} (hB : Below (w.heap.size + 1) (w.alloc (.cells #[a0] t)) wr) :
    wr.cell? ⟨w.heap.size, 0, none⟩ = some a0 ∧ wr.frozen? ⟨w.heap.size, 0, none⟩ = false ∧ w.heap.size < wr.heap.size :=
  have k : ∀ o, wr.cell? ⟨w.heap.size, o, none⟩ = #[a0][o]? := fun o => (hB.cell (p := ⟨w.heap.size, o, none⟩) (Nat.lt_succ_self _)).trans (World.cell?_alloc_at _ _ _ _ rfl)
  have z : ∀ o, wr.frozen? ⟨w.heap.size, o, none⟩ = false := fun o => (hB.frozen (p := ⟨w.heap.size, o, none⟩) (Nat.lt_succ_self _)).trans (World.frozen?_alloc_new _ _ _ o)
  ⟨k 0, z 0, by have := hB.size; rw [World.size_alloc] at this; omega⟩

theorem kept2 {w wr : World} {a0 a1 : Value} {t : TypeId} (hB : Below (w.heap.size + 1) (w.alloc (.cells #[a0, a1] t)) wr) :
    wr.cell? ⟨w.heap.size, 0, none⟩ = some a0 ∧ wr.cell? ⟨w.heap.size, 1, none⟩ = some a1 ∧ wr.frozen? ⟨w.heap.size, 0, none⟩ = false ∧ wr.frozen? ⟨w.heap.size, 1, none⟩ = false ∧ w.heap.size < wr.heap.size :=
  have k : ∀ o, wr.cell? ⟨w.heap.size, o, none⟩ = #[a0, a1][o]? := fun o => (hB.cell (p := ⟨w.heap.size, o, none⟩) (Nat.lt_succ_self _)).trans (World.cell?_alloc_at _ _ _ _ rfl)
  have z : ∀ o, wr.frozen? ⟨w.heap.size, o, none⟩ = false := fun o => (hB.frozen (p := ⟨w.heap.size, o, none⟩) (Nat.lt_succ_self _)).trans (World.frozen?_alloc_new _ _ _ o)
  ⟨k 0, k 1, z 0, z 1, by have := hB.size; rw [World.size_alloc] at this; omega⟩

theorem kept3 {w wr : World} {a0 a1 a2 : Value} {t : TypeId} (hB : Below (w.heap.size + 1) (w.alloc (.cells #[a0, a1, a2] t)) wr) :
    wr.cell? ⟨w.heap.size, 0, none⟩ = some a0 ∧ wr.cell? ⟨w.heap.size, 1, none⟩ = some a1 ∧ wr.cell? ⟨w.heap.size, 2, none⟩ = some a2 ∧ wr.frozen? ⟨w.heap.size, 0, none⟩ = false ∧ wr.frozen? ⟨w.heap.size, 1, none⟩ = false ∧ wr.frozen? ⟨w.heap.size, 2, none⟩ = false ∧ w.heap.size < wr.heap.size :=
  have k : ∀ o, wr.cell? ⟨w.heap.size, o, none⟩ = #[a0, a1, a2][o]? := fun o => (hB.cell (p := ⟨w.heap.size, o, none⟩) (Nat.lt_succ_self _)).trans (World.cell?_alloc_at _ _ _ _ rfl)
  have z : ∀ o, wr.frozen? ⟨w.heap.size, o, none⟩ = false := fun o => (hB.frozen (p := ⟨w.heap.size, o, none⟩) (Nat.lt_succ_self _)).trans (World.frozen?_alloc_new _ _ _ o)
  ⟨k 0, k 1, k 2, z 0, z 1, z 2, by have := hB.size; rw [World.size_alloc] at this; omega⟩

theorem kept5 {w wr : World} {a0 a1 a2 a3 a4 : Value} {t : TypeId} (hB : Below (w.heap.size + 1) (w.alloc (.cells #[a0, a1, a2, a3, a4] t)) wr) :
    wr.cell? ⟨w.heap.size, 0, none⟩ = some a0 ∧ wr.cell? ⟨w.heap.size, 1, none⟩ = some a1 ∧ wr.cell? ⟨w.heap.size, 2, none⟩ = some a2 ∧ wr.cell? ⟨w.heap.size, 3, none⟩ = some a3 ∧ wr.cell? ⟨w.heap.size, 4, none⟩ = some a4 ∧ wr.frozen? ⟨w.heap.size, 0, none⟩ = false ∧ wr.frozen? ⟨w.heap.size, 1, none⟩ = false ∧ wr.frozen? ⟨w.heap.size, 2, none⟩ = false ∧ wr.frozen? ⟨w.heap.size, 3, none⟩ = false ∧ wr.frozen? ⟨w.heap.size, 4, none⟩ = false ∧ w.heap.size < wr.heap.size :=
  have k : ∀ o, wr.cell? ⟨w.heap.size, o, none⟩ = #[a0, a1, a2, a3, a4][o]? := fun o => (hB.cell (p := ⟨w.heap.size, o, none⟩) (Nat.lt_succ_self _)).trans (World.cell?_alloc_at _ _ _ _ rfl)
  have z : ∀ o, wr.frozen? ⟨w.heap.size, o, none⟩ = false := fun o => (hB.frozen (p := ⟨w.heap.size, o, none⟩) (Nat.lt_succ_self _)).trans (World.frozen?_alloc_new _ _ _ o)
  ⟨k 0, k 1, k 2, k 3, k 4, z 0, z 1, z 2, z 3, z 4, by have := hB.size; rw [World.size_alloc] at this; omega⟩

end Go.Proofs.YtlibkhndekgnfaaDoor
