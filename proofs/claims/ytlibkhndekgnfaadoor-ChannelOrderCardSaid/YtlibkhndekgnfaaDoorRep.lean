/- A channel in memory. -/
import Derived.Test.YtlibkhndekgnfaaDoorRing
namespace Go.Proofs.YtlibkhndekgnfaaDoor
open Go.RowKit

/-- The cells of a node. -/
def nodeG (w : Cn.Wt) (q : Option Addr) : Nat → Value := fun o =>
  if o = 0 then .int .i64 w.t else if o = 1 then .bool w.send else if o = 2 then .int .i64 w.v.k else if o = 3 then .int .i64 w.v.n else if o = 4 then .string w.v.s else .pointer q

/-- Where the k-th node lies. -/
def ptrAt (ns : List Nat) (k : Nat) : Option Addr := (ns[k]?).map fun m => ⟨m, 0, none⟩

/-- The nodes of a list of waiters. -/
structure Chain (W : World) (ns : List Nat) (ws : List Cn.Wt) : Prop where
  len : ns.length = ws.length
  node : ∀ k m w, ns[k]? = some m → ws[k]? = some w → Blk W m 6 (nodeG w (ptrAt ns (k + 1)))

/-- The cells of a channel: its ring begins at f. -/
structure Fits (g : Nat → Value) (f : Nat) (ns : List Nat) (c : Cn.St) : Prop where
  lt : f < 16
  cap : c.cap ≤ 16
  len : c.buf.length ≤ c.cap
  pol : 0 ≤ c.pol ∧ c.pol ≤ 2
  g0 : g 0 = .int .i64 c.cap
  g1 : g 1 = .int .i64 c.pol
  g2 : g 2 = .bool c.closed
  g51 : g 51 = .int .i64 f
  g52 : g 52 = .int .i64 c.buf.length
  g53 : g 53 = .pointer (ptrAt ns 0)
  g54 : g 54 = .int .i64 c.dropped
  one : ∀ o, o < 55 → (g o).oneCell' = true
  ring : ∀ i v, c.buf[i]? = some v → g (3 + (f + i) % 16 * 3) = .int .i64 v.k ∧ g (3 + (f + i) % 16 * 3 + 1) = .int .i64 v.n ∧ g (3 + (f + i) % 16 * 3 + 2) = .string v.s

/-- Block b is a channel; its waiters are the nodes ns. -/
structure Rep (W : World) (b : Nat) (ns : List Nat) (c : Cn.St) : Prop where
  ex : ∃ g f, Blk W b 55 g ∧ Fits g f ns c
  chain : Chain W ns c.wait
  nd : (b :: ns).Nodup

variable {W W' : World} {b : Nat} {ns : List Nat} {ws : List Cn.Wt} {c : Cn.St}
theorem Chain.lt (h : Chain W ns ws) : ∀ x ∈ ns, x < W.heap.size := fun x hx => by
  obtain ⟨k, hk, rfl⟩ := List.getElem_of_mem hx
  have hk' : k < ws.length := h.len ▸ hk
  exact (h.node k _ _ (List.getElem?_eq_getElem hk) (List.getElem?_eq_getElem hk')).lt
theorem Chain.fr (h : Chain W ns ws) {L : List Nat} (hf : Fr L W W') (hL : ∀ x ∈ ns, x ∉ L) : Chain W' ns ws :=
  ⟨h.len, fun k m w hm hw => (h.node k m w hm hw).fr hf (hL m (List.mem_of_getElem? hm))⟩
theorem Chain.alloc (h : Chain W ns ws) (o : Obj) : Chain (W.alloc o) ns ws := ⟨h.len, fun k m w hm hw => (h.node k m w hm hw).alloc o⟩
theorem Chain.set_other (h : Chain W ns ws) {b' o : Nat} (hb : b' ∉ ns) (v : Value) : Chain (W.setCell ⟨b', o, none⟩ v) ns ws :=
  ⟨h.len, fun k m w hm hw => (h.node k m w hm hw).set_other (b' := b') (fun e => hb (by rw [← e]; exact List.mem_of_getElem? hm)) v⟩
theorem Rep.lt (h : Rep W b ns c) : ∀ x ∈ b :: ns, x < W.heap.size := fun x hx => by
  rcases List.mem_cons.1 hx with rfl | hx
  · obtain ⟨g, f, hb, _⟩ := h.ex; exact hb.lt
  · exact h.chain.lt x hx
theorem Rep.fr (h : Rep W b ns c) {L : List Nat} (hf : Fr L W W') (hL : ∀ x ∈ b :: ns, x ∉ L) : Rep W' b ns c := by
  obtain ⟨g, f, hb, hg⟩ := h.ex
  exact ⟨⟨g, f, hb.fr hf (hL b (by simp)), hg⟩, h.chain.fr hf (fun x hx => hL x (by simp [hx])), h.nd⟩
theorem Rep.below (h : Rep W b ns c) (hb : Below W.heap.size W W') : Rep W' b ns c := h.fr (L := []) (Fr.of_below hb) (by simp)
theorem Rep.alloc (h : Rep W b ns c) (o : Obj) : Rep (W.alloc o) b ns c := h.below ((Below.refl _ _).alloc (Nat.le_refl _) _)
theorem Rep.drewN (h : Rep W b ns c) (k : Nat) : Rep (W.drewN k) b ns c := h.below ⟨rfl, rfl, rfl, Nat.le_refl _, fun _ _ => rfl⟩

namespace Cn
theorem pick_some {p : Wt → Bool} : ∀ {ws : List Wt} {k : Nat} {w : Wt}, (∀ x ∈ ws.take k, p x = false) → ws[k]? = some w → p w = true → pick p ws = some (w, ws.eraseIdx k)
  | [], _, _, _, h, _ => by simp at h
  | x :: r, 0, w, _, h, hp => by
    have e : x = w := by simpa using h
    subst e; simp [pick, hp]
  | x :: r, k + 1, w, h0, h, hp => by
    have hx : p x = false := h0 x (by simp)
    have := pick_some (k := k) (ws := r) (fun y hy => h0 y (by simp [hy])) (by simpa using h) hp
    simp [pick, hx, this]
theorem pick_none {p : Wt → Bool} : ∀ {ws : List Wt}, (∀ x ∈ ws, p x = false) → pick p ws = none
  | [], _ => rfl
  | x :: r, h => by
    have hx : p x = false := h x (by simp)
    have := pick_none (ws := r) fun y hy => h y (by simp [hy])
    simp [pick, hx, this]
/-- The others, if there is one. -/
def rest (p : Wt → Bool) (ws : List Wt) : List Wt := match pick p ws with
  | some (_, r) => r
  | none => ws
end Cn

/-- Where the pointer to the k-th node lies. -/
def linkAt (b : Nat) (ns : List Nat) : Nat → Addr
  | 0 => ⟨b, 53, none⟩
  | k + 1 => ⟨ns[k]?.getD 0, 5, none⟩

theorem ptr_erase_lt {ns : List Nat} {k j : Nat} (h : j < k) : ptrAt (ns.eraseIdx k) j = ptrAt ns j := by simp [ptrAt, List.getElem?_eraseIdx, h]
theorem ptr_erase_ge {ns : List Nat} {k j : Nat} (h : k ≤ j) : ptrAt (ns.eraseIdx k) j = ptrAt ns (j + 1) := by
  have : ¬ j < k := by omega
  simp [ptrAt, List.getElem?_eraseIdx, this]

theorem nodeG_next (w : Cn.Wt) (q q' : Option Addr) (o : Nat) (ho : o < 6) : upd (nodeG w q) 5 (.pointer q') o = nodeG w q' o := by
  unfold upd nodeG
  split
  · rename_i h; subst h; simp
  · have : o = 0 ∨ o = 1 ∨ o = 2 ∨ o = 3 ∨ o = 4 := by omega
    rcases this with rfl | rfl | rfl | rfl | rfl <;> simp
theorem Fits.next {g : Nat → Value} {f : Nat} {ns : List Nat} {c : Cn.St} (h : Fits g f ns c) (ns' : List Nat) (ws : List Cn.Wt) : Fits (upd g 53 (.pointer (ptrAt ns' 0))) f ns' { c with wait := ws } := by
  refine ⟨h.lt, h.cap, h.len, h.pol, ?_, ?_, ?_, ?_, ?_, upd_same _ _ _, ?_, fun o ho => ?_, fun i v hv => ?_⟩
  · rw [upd_other _ _ (by omega)]; exact h.g0
  · rw [upd_other _ _ (by omega)]; exact h.g1
  · rw [upd_other _ _ (by omega)]; exact h.g2
  · rw [upd_other _ _ (by omega)]; exact h.g51
  · rw [upd_other _ _ (by omega)]; exact h.g52
  · rw [upd_other _ _ (by omega)]; exact h.g54
  · by_cases e : o = 53
    · subst e; rw [upd_same]; rfl
    · rw [upd_other _ _ e]; exact h.one o ho
  · have := h.ring i v hv
    have hm : (f + i) % 16 < 16 := Nat.mod_lt _ (by omega)
    rw [upd_other _ _ (by omega), upd_other _ _ (by omega), upd_other _ _ (by omega)]
    exact this

theorem nodup_getElem? : ∀ {l : List Nat}, l.Nodup → ∀ {i j : Nat} {m : Nat}, l[i]? = some m → l[j]? = some m → i = j
  | [], _, _, _, _, h, _ => by simp at h
  | a :: l, h, i, j, m, hi, hj => by
    have hc := List.nodup_cons.1 h
    cases i with
    | zero => cases j with
      | zero => rfl
      | succ j =>
        have e : a = m := by simpa using hi
        subst e
        exact absurd (List.mem_of_getElem? (by simpa using hj)) hc.1
    | succ i => cases j with
      | zero =>
        have e : a = m := by simpa using hj
        subst e
        exact absurd (List.mem_of_getElem? (by simpa using hi)) hc.1
      | succ j => rw [nodup_getElem? hc.2 (i := i) (j := j) (by simpa using hi) (by simpa using hj)]

/-- A node is taken out. -/
theorem Rep.unlink (h : Rep W b ns c) {k : Nat} (hk : k < ns.length) :
    Rep (W.setCell (linkAt b ns k) (.pointer (ptrAt ns (k + 1)))) b (ns.eraseIdx k) { c with wait := c.wait.eraseIdx k } := by
  obtain ⟨g, f, hb, hg⟩ := h.ex
  have hnd := List.nodup_cons.1 h.nd
  have hnd' : (b :: ns.eraseIdx k).Nodup := List.nodup_cons.2 ⟨fun hm => hnd.1 (List.mem_of_mem_eraseIdx hm), hnd.2.eraseIdx _⟩
  have hlen : (ns.eraseIdx k).length = (c.wait.eraseIdx k).length := by rw [List.length_eraseIdx, List.length_eraseIdx, h.chain.len]
  cases k with
  | zero =>
    refine ⟨⟨_, f, hb.set (by omega) _, ?_⟩, ⟨hlen, fun j m w hm hw => ?_⟩, hnd'⟩
    · have := hg.next (ns.eraseIdx 0) (c.wait.eraseIdx 0)
      rw [ptr_erase_ge (Nat.le_refl 0)] at this
      exact this
    · rw [List.getElem?_eraseIdx] at hm hw
      simp only [Nat.not_lt_zero, if_false] at hm hw
      have hn := h.chain.node (j + 1) m w hm hw
      rw [ptr_erase_ge (Nat.zero_le _)]
      exact hn.set_other (b' := b) (fun e => hnd.1 (by rw [← e]; exact List.mem_of_getElem? hm)) _
  | succ k =>
    have hk1 : k < ns.length := by omega
    obtain ⟨m0, hm0⟩ : ∃ m0, ns[k]? = some m0 := ⟨_, List.getElem?_eq_getElem hk1⟩
    have hl : linkAt b ns (k + 1) = ⟨m0, 5, none⟩ := by simp [linkAt, hm0]
    rw [hl]
    have hmb : b ≠ m0 := fun e => hnd.1 (e ▸ List.mem_of_getElem? hm0)
    refine ⟨⟨g, f, hb.set_other hmb _, ?_⟩, ⟨hlen, fun j m w hm hw => ?_⟩, hnd'⟩
    · have e53 : g 53 = .pointer (ptrAt (ns.eraseIdx (k + 1)) 0) := by rw [ptr_erase_lt (by omega)]; exact hg.g53
      exact ⟨hg.lt, hg.cap, hg.len, hg.pol, hg.g0, hg.g1, hg.g2, hg.g51, hg.g52, e53, hg.g54, hg.one, hg.ring⟩
    · rw [List.getElem?_eraseIdx] at hm hw
      by_cases hj : j < k + 1
      · rw [if_pos hj] at hm hw
        have hn := h.chain.node j m w hm hw
        by_cases hjk : j = k
        · subst hjk
          obtain rfl : m0 = m := by rw [hm0] at hm; exact Option.some.inj hm
          rw [ptr_erase_ge (Nat.le_refl _)]
          exact (hn.set (by omega) _).ext (nodeG_next w _ _)
        · rw [ptr_erase_lt (by omega)]
          exact hn.set_other (b' := m0) (fun e => hjk (nodup_getElem? hnd.2 hm (by rw [e]; exact hm0))) _
      · rw [if_neg hj] at hm hw
        have hn := h.chain.node (j + 1) m w hm hw
        rw [ptr_erase_ge (by omega)]
        exact hn.set_other (b' := m0) (fun e => by have := nodup_getElem? hnd.2 hm (by rw [e]; exact hm0); omega) _
end Go.Proofs.YtlibkhndekgnfaaDoor
