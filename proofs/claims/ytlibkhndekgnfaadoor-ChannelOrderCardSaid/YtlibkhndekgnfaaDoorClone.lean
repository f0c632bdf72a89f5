/- Copying a list of waiters. -/
import Derived.Test.YtlibkhndekgnfaaDoorWithdraw
import Derived.Test.YtlibkhndekgnfaaDoorAdd
namespace Go.Proofs.YtlibkhndekgnfaaDoor
open Go.RowKit Go.Shelf

attribute [local go_sem] Oper.semAt_some

/-- Where the pointer behind the k-th node lies, of a list that begins in block b. -/
def lnk (b : Nat) (ms : List Nat) : Nat → Addr
  | 0 => ⟨b, 0, none⟩
  | k + 1 => ⟨ms[k]?.getD 0, 5, none⟩

theorem Blk.own {W W' : World} {m n : Nat} {g : Nat → Value} (h : Blk W m n g) (hn : 0 < n) {row : Option Nat} (hg : W.grownBy W' row) (hr : ∀ r, row = some r → ∃ o : Obj, W.heap[r]? = some o ∧ o.isCells = false) : Blk W' m n g := by
  refine h.of_eq (Nat.lt_of_lt_of_le h.lt hg.size) (hg.block m h.lt fun e => ?_)
  obtain ⟨o, ho, hc⟩ := hr m e.symm
  have h0 := h.cell 0 hn
  cases o with
  | cells c t f => simp [Obj.isCells] at hc
  | _ => simp [World.cell?, ho] at h0
theorem Chain.own {W W' : World} {ns : List Nat} {ws : List Cn.Wt} (h : Chain W ns ws) {row : Option Nat} (hg : W.grownBy W' row) (hr : ∀ r, row = some r → ∃ o : Obj, W.heap[r]? = some o ∧ o.isCells = false) : Chain W' ns ws :=
  ⟨h.len, fun k m w hm hw => (h.node k m w hm hw).own (by omega) hg hr⟩

/-- A list that is being made: it begins in block b; block e holds where its end is. -/
structure Made (W : World) (b e : Nat) (ms : List Nat) (pre : List Cn.Wt) : Prop where
  chain : Chain W ms pre
  nd : ms.Nodup
  gt : ∀ x ∈ ms, e < x
  head : Blk W b 1 (fun _ => .pointer (ptrAt ms 0))
  tail : Blk W e 1 (fun _ => .pointer (some (lnk b ms ms.length)))
  be : b < e

theorem Made.own {W W' : World} {b e : Nat} {ms : List Nat} {pre : List Cn.Wt} (h : Made W b e ms pre) {row : Option Nat} (hg : W.grownBy W' row) (hr : ∀ r, row = some r → ∃ o : Obj, W.heap[r]? = some o ∧ o.isCells = false) : Made W' b e ms pre :=
  ⟨h.chain.own hg hr, h.nd, h.gt, h.head.own (by omega) hg hr, h.tail.own (by omega) hg hr, h.be⟩
theorem Made.alloc {W : World} {b e : Nat} {ms : List Nat} {pre : List Cn.Wt} (h : Made W b e ms pre) (o : Obj) : Made (W.alloc o) b e ms pre :=
  ⟨h.chain.alloc o, h.nd, h.gt, h.head.alloc o, h.tail.alloc o, h.be⟩

theorem Made.link {W : World} {b e : Nat} {ms : List Nat} {pre : List Cn.Wt} (h : Made W b e ms pre) :
    ∃ lb lo, lnk b ms ms.length = ⟨lb, lo, none⟩ ∧ (∃ v, W.cell? ⟨lb, lo, none⟩ = some v) ∧ W.frozen? ⟨lb, lo, none⟩ = false ∧ lb < W.heap.size ∧ lb ≠ e ∧ b ≤ lb := by
  cases hk : ms.length with
  | zero => exact ⟨b, 0, rfl, ⟨_, h.head.cell 0 (by omega)⟩, h.head.fz 0, h.head.lt, by have := h.be; omega, Nat.le_refl _⟩
  | succ k =>
    have e1 : ms[k]? = some (ms[k]'(by omega)) := List.getElem?_eq_getElem _
    have e2 : pre[k]? = some (pre[k]'(by have := h.chain.len; omega)) := List.getElem?_eq_getElem _
    have hn := h.chain.node k _ _ e1 e2
    have hgt := h.gt _ (List.mem_of_getElem? e1)
    exact ⟨ms[k]'(by omega), 5, by simp [lnk, e1], ⟨_, hn.cell 5 (by omega)⟩, hn.fz 5, hn.lt, by omega, by have := h.be; omega⟩

theorem Made.snoc {W : World} {b e : Nat} {ms : List Nat} {pre : List Cn.Wt} (h : Made W b e ms pre) {m : Nat} {x : Cn.Wt} (hm : ∀ y ∈ ms, y < m) (hem : e < m) (hn : Blk W m 6 (nodeG x none)) :
    Made ((W.setCell (lnk b ms ms.length) (.pointer (some ⟨m, 0, none⟩))).setCell ⟨e, 0, none⟩ (.pointer (some ⟨m, 5, none⟩))) b e (ms ++ [m]) (pre ++ [x]) := by
  have hbe := h.be
  have hmn : m ∉ ms := fun hx => by have := hm m hx; omega
  have hen : e ∉ ms := fun hx => by have := h.gt e hx; omega
  have hbn : b ∉ ms := fun hx => by have := h.gt b hx; omega
  have hlen : (ms ++ [m]).length = (pre ++ [x]).length := by simp [h.chain.len]
  have hl := h.chain.len
  have hnd : (ms ++ [m]).Nodup := List.nodup_append.2 ⟨h.nd, by simp, fun a ha c hc => by simp at hc; subst hc; exact fun e => hmn (e ▸ ha)⟩
  have hgt : ∀ y ∈ ms ++ [m], e < y := fun y hy => by
    rcases List.mem_append.1 hy with hy | hy
    · exact h.gt y hy
    · simp at hy; omega
  have hend : lnk b (ms ++ [m]) (ms ++ [m]).length = ⟨m, 5, none⟩ := by simp [lnk]
  have tl : ∀ W1 : World, Blk W1 e 1 (fun _ => .pointer (some (lnk b ms ms.length))) → Blk (W1.setCell ⟨e, 0, none⟩ (.pointer (some ⟨m, 5, none⟩))) e 1 (fun _ => .pointer (some (lnk b (ms ++ [m]) (ms ++ [m]).length))) := fun W1 hb => by
    rw [hend]
    exact (hb.set (by omega) _).ext fun o ho => by
      have : o = 0 := by omega
      subst this; exact upd_same _ _ _
  cases hk : ms.length with
  | zero =>
    have e0 : ms = [] := List.eq_nil_of_length_eq_zero hk
    subst e0
    have ew : pre = [] := List.eq_nil_of_length_eq_zero (by rw [← hl]; rfl)
    subst ew
    refine ⟨⟨hlen, fun j m' w hm' hw => ?_⟩, hnd, hgt, ?_, tl _ (h.tail.set_other (b' := b) (by omega) _), hbe⟩
    · cases j with
      | zero =>
        have e1 : m = m' := by simpa using hm'
        have e2 : x = w := by simpa using hw
        subst e1 e2
        exact (hn.set_other (b' := b) (by omega) _).set_other (b' := e) (by omega) _
      | succ j => simp at hm'
    · refine (Blk.set_other (b' := e) ?_ (by omega) _)
      exact (h.head.set (by omega) _).ext fun o ho => by
        have : o = 0 := by omega
        subst this; exact upd_same _ _ _
  | succ k =>
    have hk1 : k < ms.length := by omega
    obtain ⟨m0, hm0⟩ : ∃ m0, ms[k]? = some m0 := ⟨_, List.getElem?_eq_getElem hk1⟩
    have hlk : lnk b ms (k + 1) = ⟨m0, 5, none⟩ := by simp [lnk, hm0]
    rw [hlk]
    have hm0m : m0 ∈ ms := List.mem_of_getElem? hm0
    have hm00 : m ≠ m0 := fun e => hmn (e ▸ hm0m)
    have hbm0 : b ≠ m0 := fun e => hbn (e ▸ hm0m)
    have hem0 : e ≠ m0 := fun e' => hen (e' ▸ hm0m)
    refine ⟨⟨hlen, fun j m' w hm' hw => ?_⟩, hnd, hgt, ?_, tl _ (h.tail.set_other hem0 _), hbe⟩
    · by_cases hj : j < ms.length
      · rw [List.getElem?_append_left hj] at hm'
        rw [List.getElem?_append_left (by omega)] at hw
        have hn' := h.chain.node j m' w hm' hw
        have hm'e : m' ≠ e := fun e' => hen (e' ▸ List.mem_of_getElem? hm')
        by_cases hjk : j = k
        · subst hjk
          obtain rfl : m0 = m' := by rw [hm0] at hm'; exact Option.some.inj hm'
          have e1 : ptrAt (ms ++ [m]) (j + 1) = some ⟨m, 0, none⟩ := by rw [← hk]; exact ptr_add_eq
          rw [e1]
          exact ((hn'.set (by omega) _).ext (nodeG_next w _ _)).set_other (b' := e) hm'e _
        · rw [ptr_add_lt (by omega)]
          exact (hn'.set_other (b' := m0) (fun e => hjk (nodup_getElem? h.nd hm' (by rw [e]; exact hm0))) _).set_other (b' := e) hm'e _
      · have e1 : j = ms.length := by
          have := (List.getElem?_eq_some_iff.1 hm').1
          simp at this; omega
        subst e1
        have e2 : m = m' := by simpa using hm'
        have e3 : x = w := by rw [hl] at hw; simpa using hw
        subst e2 e3
        rw [ptr_add_gt (by omega)]
        exact (hn.set_other (b' := m0) hm00 _).set_other (b' := e) (by omega) _
    · have e53 : ptrAt (ms ++ [m]) 0 = ptrAt ms 0 := ptr_add_lt (by omega)
      rw [e53]
      exact (h.head.set_other hbm0 _).set_other (b' := e) (by omega) _
end Go.Proofs.YtlibkhndekgnfaaDoor
