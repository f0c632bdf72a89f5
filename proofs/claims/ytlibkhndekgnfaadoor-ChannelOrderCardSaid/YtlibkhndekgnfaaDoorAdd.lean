/- Parking: a waiter is put behind all others. -/
import Derived.Test.YtlibkhndekgnfaaDoorRows2
namespace Go.Proofs.YtlibkhndekgnfaaDoor
open Go.RowKit

theorem ptr_add_lt {ns : List Nat} {m j : Nat} (h : j < ns.length) : ptrAt (ns ++ [m]) j = ptrAt ns j := by simp [ptrAt, List.getElem?_append_left h]
theorem ptr_add_eq {ns : List Nat} {m : Nat} : ptrAt (ns ++ [m]) ns.length = some ⟨m, 0, none⟩ := by simp [ptrAt]
theorem ptr_add_gt {ns : List Nat} {m j : Nat} (h : ns.length < j) : ptrAt (ns ++ [m]) j = none := by
  have : (ns ++ [m])[j]? = none := List.getElem?_eq_none (by simp; omega)
  simp [ptrAt, this]

/-- A new node is linked behind the last one. -/
theorem Rep.link_new {W : World} {b : Nat} {ns : List Nat} {c : Cn.St} (h : Rep W b ns c) {m : Nat} {x : Cn.Wt} (hm : m ∉ b :: ns) (hn : Blk W m 6 (nodeG x none)) :
    Rep (W.setCell (linkAt b ns ns.length) (.pointer (some ⟨m, 0, none⟩))) b (ns ++ [m]) { c with wait := c.wait ++ [x] } := by
  obtain ⟨g, f, hb, hg⟩ := h.ex
  have hnd := List.nodup_cons.1 h.nd
  have hmb : m ≠ b := fun e => hm (by simp [e])
  have hmn : m ∉ ns := fun e => hm (by simp [e])
  have hnd' : (b :: (ns ++ [m])).Nodup := by
    refine List.nodup_cons.2 ⟨by simp [hnd.1]; exact fun e => hmb e.symm, ?_⟩
    exact List.nodup_append.2 ⟨hnd.2, by simp, fun a ha c hc => by simp at hc; subst hc; exact fun e => hmn (e ▸ ha)⟩
  have hlen : (ns ++ [m]).length = (c.wait ++ [x]).length := by simp [h.chain.len]
  have hl := h.chain.len
  cases hk : ns.length with
  | zero =>
    have e0 : ns = [] := List.eq_nil_of_length_eq_zero hk
    subst e0
    have ew : c.wait = [] := List.eq_nil_of_length_eq_zero (by rw [← hl]; rfl)
    refine ⟨⟨_, f, hb.set (by omega) _, ?_⟩, ⟨hlen, fun j m' w hm' hw => ?_⟩, hnd'⟩
    · exact hg.next ([] ++ [m]) (c.wait ++ [x])
    · rw [ew] at hw
      cases j with
      | zero =>
        have e1 : m = m' := by simpa using hm'
        have e2 : x = w := by simpa using hw
        subst e1 e2
        exact hn.set_other (b' := b) hmb _
      | succ j => simp at hm'
  | succ k =>
    have hk1 : k < ns.length := by omega
    obtain ⟨m0, hm0⟩ : ∃ m0, ns[k]? = some m0 := ⟨_, List.getElem?_eq_getElem hk1⟩
    have hlk : linkAt b ns (k + 1) = ⟨m0, 5, none⟩ := by simp [linkAt, hm0]
    rw [hlk]
    have hmb0 : b ≠ m0 := fun e => hnd.1 (e ▸ List.mem_of_getElem? hm0)
    have hm00 : m ≠ m0 := fun e => hmn (e ▸ List.mem_of_getElem? hm0)
    refine ⟨⟨g, f, hb.set_other hmb0 _, ?_⟩, ⟨hlen, fun j m' w hm' hw => ?_⟩, hnd'⟩
    · have e53 : g 53 = .pointer (ptrAt (ns ++ [m]) 0) := by rw [ptr_add_lt (by omega)]; exact hg.g53
      exact ⟨hg.lt, hg.cap, hg.len, hg.pol, hg.g0, hg.g1, hg.g2, hg.g51, hg.g52, e53, hg.g54, hg.one, hg.ring⟩
    · by_cases hj : j < ns.length
      · rw [List.getElem?_append_left hj] at hm'
        rw [List.getElem?_append_left (by omega)] at hw
        have hn' := h.chain.node j m' w hm' hw
        by_cases hjk : j = k
        · subst hjk
          obtain rfl : m0 = m' := by rw [hm0] at hm'; exact Option.some.inj hm'
          have e1 : ptrAt (ns ++ [m]) (j + 1) = some ⟨m, 0, none⟩ := by rw [← hk]; exact ptr_add_eq
          rw [e1]
          exact (hn'.set (by omega) _).ext (nodeG_next w _ _)
        · rw [ptr_add_lt (by omega)]
          exact hn'.set_other (b' := m0) (fun e => hjk (nodup_getElem? hnd.2 hm' (by rw [e]; exact hm0))) _
      · have e1 : j = ns.length := by
          have := (List.getElem?_eq_some_iff.1 hm').1
          simp at this; omega
        subst e1
        have e2 : m = m' := by simpa using hm'
        have e3 : x = w := by rw [hl] at hw; simpa using hw
        subst e2 e3
        rw [ptr_add_gt (by omega)]
        exact hn.set_other (b' := m0) hm00 _

def addPost (w : World) (b : Nat) (ns : List Nat) (c : Cn.St) (x : Cn.Wt) (e : Ending) (w' : World) : Prop :=
  ∃ m, w.heap.size ≤ m ∧ e = .returned (.tuple #[]) ∧ Rep w' b (ns ++ [m]) { c with wait := c.wait ++ [x] } ∧ Fr (b :: ns) w w'

set_option maxRecDepth 100000 in
set_option maxHeartbeats 4000000 in
theorem add_any (b : Nat) (ns : List Nat) (c : Cn.St) (t : Int) (sd : Bool) (k n : Int) (s : ByteArray) (w : World) (h : Rep w b ns c) :
    Calls Tryd.prog 45 #[.pointer (some ⟨b, 53, none⟩), wtV t sd k n s] w (addPost w b ns c ⟨t, sd, ⟨k, n, s⟩⟩) := by
  have hb := h.lt b (by simp)
  have hlen : ns.length = c.wait.length := h.chain.len
  have H := Lib.hid h
  have HL := Lib.hid hlen
  clear h hlen
  go_enter Tryd.func45, Tryd.ntmps45
  go_wp2_with fail
  go_loop [4] (fun l => ∃ k : Nat, k ≤ ns.length ∧ l = .pointer (some (linkAt b ns k))) (fun l => ns.length - linkIdx b ns l)
  case atStart => exact ⟨0, Nat.zero_le _, rfl⟩
  case round =>
    obtain ⟨j, hj, rfl⟩ := hrel
    have hR := H.out.alloc (.cells #[.int .i64 t, .bool sd, .int .i64 k, .int .i64 n, .string s] 59)
    obtain ⟨lb, lo, hla, hcl, hfl, hlt, hne, hmem⟩ := hR.link hj
    have HI := Lib.hid (linkIdx_at H.out.nd hj)
    have HA := Lib.hid hla
    have hlw : lb < w.heap.size := H.out.lt lb hmem
    by_cases hjl : j < ns.length
    · obtain ⟨m, hm⟩ : ∃ m, ns[j]? = some m := ⟨_, List.getElem?_eq_getElem hjl⟩
      rw [show ptrAt ns j = some ⟨m, 0, none⟩ by simp [ptrAt, hm]] at hcl
      have HM := Lib.hid hm
      rw [HA.out]
      clear hla hR hne hmem hm
      go_wp2
      go_round
      case rel => exact ⟨j + 1, by omega, by simp [linkAt, HM.out]⟩
      case measure =>
        have e1 := HI.out
        rw [HA.out] at e1
        have e2 := linkIdx_at H.out.nd (k := j + 1) (by omega)
        simp only [linkAt, HM.out, Option.getD_some] at e2
        simp only [e1, e2]
        omega
    · obtain rfl : j = ns.length := by omega
      rw [show ptrAt ns ns.length = none by simp [ptrAt]] at hcl
      rw [HA.out]
      have HR := Lib.hid hR
      have HM := Lib.hid hmem
      clear hla hR hne hmem
      go_wp2
      go_end0
      have hbk : Blk ((w.alloc (.cells #[.int .i64 t, .bool sd, .int .i64 k, .int .i64 n, .string s] 59)).alloc (.cells #[.int .i64 t, .bool sd, .int .i64 k, .int .i64 n, .string s, .pointer none] 114)) (w.heap.size + 1) 6 (nodeG ⟨t, sd, ⟨k, n, s⟩⟩ none) := by
        have := Blk.new (w.alloc (.cells #[.int .i64 t, .bool sd, .int .i64 k, .int .i64 n, .string s] 59)) #[.int .i64 t, .bool sd, .int .i64 k, .int .i64 n, .string s, .pointer none] 114
        rw [World.size_alloc] at this
        refine this.ext fun o ho => ?_
        have : o = 0 ∨ o = 1 ∨ o = 2 ∨ o = 3 ∨ o = 4 ∨ o = 5 := by simp at ho; omega
        rcases this with rfl | rfl | rfl | rfl | rfl | rfl <;> rfl
      have hr := (HR.out.alloc (.cells #[.int .i64 t, .bool sd, .int .i64 k, .int .i64 n, .string s, .pointer none] 114)).link_new (fun hm => by have := H.out.lt _ hm; omega) hbk
      rw [HA.out, World.setCell_alloc_past _ _ _ _ (by simp; omega), World.setCell_alloc_past _ _ _ _ hlw] at hr
      exact ⟨w.heap.size + 1, by omega, rfl, hr, (((Fr.refl _ _).set (.inl HM.out) _ _).alloc _).alloc _⟩
end Go.Proofs.YtlibkhndekgnfaaDoor
