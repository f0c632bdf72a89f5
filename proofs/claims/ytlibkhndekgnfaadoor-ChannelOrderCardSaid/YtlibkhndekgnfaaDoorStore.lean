/- Putting a value into a channel's buffer, taking one out; what a send does that meets no receiver. -/
import Derived.Test.YtlibkhndekgnfaaDoorValid
namespace Go.Proofs.YtlibkhndekgnfaaDoor
open Go.RowKit

theorem Fits.put {g : Nat → Value} {f : Nat} {ns : List Nat} {c : Cn.St} (h : Fits g f ns c) (hl : c.buf.length < c.cap) (v : Cn.V) {q : Nat} (hq : (f + c.buf.length) % 16 = q) :
    Fits (upd (upd (upd (upd g (3 + q * 3) (.int .i64 v.k)) (3 + q * 3 + 1) (.int .i64 v.n)) (3 + q * 3 + 2) (.string v.s)) 52 (.int .i64 (c.buf.length + 1))) f ns { c with buf := c.buf ++ [v] } := by
  have hq16 : q < 16 := hq ▸ Nat.mod_lt _ (by omega)
  have hc := h.cap
  have hlt := h.lt
  have ne : ∀ o, o ≠ 52 → (o < 3 ∨ 51 ≤ o) → upd (upd (upd (upd g (3 + q * 3) (.int .i64 v.k)) (3 + q * 3 + 1) (.int .i64 v.n)) (3 + q * 3 + 2) (.string v.s)) 52 (.int .i64 (c.buf.length + 1)) o = g o := fun o h1 h2 => by
    rw [upd_other _ _ h1, upd_other _ _ (by omega), upd_other _ _ (by omega), upd_other _ _ (by omega)]
  refine ⟨h.lt, h.cap, by simp; omega, h.pol, (ne 0 (by omega) (by omega)).trans h.g0, (ne 1 (by omega) (by omega)).trans h.g1, (ne 2 (by omega) (by omega)).trans h.g2, (ne 51 (by omega) (by omega)).trans h.g51, by rw [upd_same]; simp, (ne 53 (by omega) (by omega)).trans h.g53, (ne 54 (by omega) (by omega)).trans h.g54, fun o ho => ?_, fun i u hu => ?_⟩
  · unfold upd
    repeat' split
    all_goals first | rfl | exact h.one o ho
  · rw [List.getElem?_append] at hu
    split at hu
    · rename_i hi
      have hr := h.ring i u hu
      have hne : (f + i) % 16 ≠ q := by omega
      have hm : (f + i) % 16 < 16 := Nat.mod_lt _ (by omega)
      refine ⟨?_, ?_, ?_⟩
      · rw [upd_other _ _ (by omega), upd_other _ _ (by omega), upd_other _ _ (by omega), upd_other _ _ (by omega)]; exact hr.1
      · rw [upd_other _ _ (by omega), upd_other _ _ (by omega), upd_other _ _ (by omega), upd_other _ _ (by omega)]; exact hr.2.1
      · rw [upd_other _ _ (by omega), upd_other _ _ (by omega), upd_other _ _ (by omega), upd_other _ _ (by omega)]; exact hr.2.2
    · rename_i hi
      have hi0 : i - c.buf.length = 0 := by
        rcases Nat.lt_or_ge 0 (i - c.buf.length) with h1 | h1
        · rw [List.getElem?_eq_none (by simp; omega)] at hu; cases hu
        · omega
      rw [hi0] at hu
      have e : v = u := by simpa using hu
      have ei : i = c.buf.length := by omega
      subst e
      rw [ei, hq]
      refine ⟨?_, ?_, ?_⟩
      · rw [upd_other _ _ (by omega), upd_other _ _ (by omega), upd_other _ _ (by omega), upd_same]
      · rw [upd_other _ _ (by omega), upd_other _ _ (by omega), upd_same]
      · rw [upd_other _ _ (by omega), upd_same]
theorem Fits.take {g : Nat → Value} {f : Nat} {ns : List Nat} {c : Cn.St} (h : Fits g f ns c) {v : Cn.V} {r : List Cn.V} (hl : c.buf = v :: r) :
    Fits (upd (upd (upd (upd (upd g (3 + f * 3) (.int .i64 0)) (3 + f * 3 + 1) (.int .i64 0)) (3 + f * 3 + 2) (.string ⟨#[]⟩)) 51 (.int .i64 ((f + 1) % 16 : Nat))) 52 (.int .i64 (c.buf.length - 1 : Nat))) ((f + 1) % 16) ns { c with buf := r } := by
  have hc := h.cap
  have hlt := h.lt
  have hlen := h.len
  rw [hl, List.length_cons] at hlen
  have ne : ∀ o, o ≠ 52 → o ≠ 51 → (o < 3 ∨ 51 ≤ o) → upd (upd (upd (upd (upd g (3 + f * 3) (.int .i64 0)) (3 + f * 3 + 1) (.int .i64 0)) (3 + f * 3 + 2) (.string ⟨#[]⟩)) 51 (.int .i64 ((f + 1) % 16 : Nat))) 52 (.int .i64 (c.buf.length - 1 : Nat)) o = g o := fun o h1 h0 h2 => by
    rw [upd_other _ _ h1, upd_other _ _ h0, upd_other _ _ (by omega), upd_other _ _ (by omega), upd_other _ _ (by omega)]
  refine ⟨Nat.mod_lt _ (by omega), h.cap, by show r.length ≤ c.cap; omega, h.pol, (ne 0 (by omega) (by omega) (by omega)).trans h.g0, (ne 1 (by omega) (by omega) (by omega)).trans h.g1, (ne 2 (by omega) (by omega) (by omega)).trans h.g2, by rw [upd_other _ _ (by omega), upd_same], by rw [upd_same, hl]; simp, (ne 53 (by omega) (by omega) (by omega)).trans h.g53, (ne 54 (by omega) (by omega) (by omega)).trans h.g54, fun o ho => ?_, fun i u hu => ?_⟩
  · unfold upd
    repeat' split
    all_goals first | rfl | exact h.one o ho
  · have hi : i < r.length := (List.getElem?_eq_some_iff.1 hu).1
    have hr := h.ring (i + 1) u (by rw [hl]; simpa using hu)
    have e : ((f + 1) % 16 + i) % 16 = (f + (i + 1)) % 16 := by omega
    have hne : (f + (i + 1)) % 16 ≠ f := by omega
    have hm : (f + (i + 1)) % 16 < 16 := Nat.mod_lt _ (by omega)
    rw [e]
    refine ⟨?_, ?_, ?_⟩
    · rw [upd_other _ _ (by omega), upd_other _ _ (by omega), upd_other _ _ (by omega), upd_other _ _ (by omega), upd_other _ _ (by omega)]; exact hr.1
    · rw [upd_other _ _ (by omega), upd_other _ _ (by omega), upd_other _ _ (by omega), upd_other _ _ (by omega), upd_other _ _ (by omega)]; exact hr.2.1
    · rw [upd_other _ _ (by omega), upd_other _ _ (by omega), upd_other _ _ (by omega), upd_other _ _ (by omega), upd_other _ _ (by omega)]; exact hr.2.2
theorem Fits.drop {g : Nat → Value} {f : Nat} {ns : List Nat} {c : Cn.St} (h : Fits g f ns c) : Fits (upd g 54 (.int .i64 (c.dropped + 1))) f ns { c with dropped := c.dropped + 1 } := by
  have ne : ∀ o, o ≠ 54 → upd g 54 (.int .i64 (c.dropped + 1)) o = g o := fun o h1 => upd_other _ _ h1
  refine ⟨h.lt, h.cap, h.len, h.pol, (ne 0 (by omega)).trans h.g0, (ne 1 (by omega)).trans h.g1, (ne 2 (by omega)).trans h.g2, (ne 51 (by omega)).trans h.g51, (ne 52 (by omega)).trans h.g52, (ne 53 (by omega)).trans h.g53, by rw [upd_same]; simp, fun o ho => ?_, fun i u hu => ?_⟩
  · unfold upd
    split
    · rfl
    · exact h.one o ho
  · have hm : (f + i) % 16 < 16 := Nat.mod_lt _ (by omega)
    have hr := h.ring i u hu
    rw [ne _ (by omega), ne _ (by omega), ne _ (by omega)]
    exact hr

variable {w : World} {b : Nat} {ns : List Nat} {c : Cn.St}
theorem Rep.notin (h : Rep w b ns c) : ∀ x ∈ ns, x ∉ [b] := fun x hx hb => (List.nodup_cons.1 h.nd).1 (by simp at hb; exact hb ▸ hx)

def putPost (w : World) (b : Nat) (ns : List Nat) (c : Cn.St) (v : Cn.V) (e : Ending) (w' : World) : Prop := e = .returned (.tuple #[]) ∧ Rep w' b ns { c with buf := c.buf ++ [v] } ∧ Fr [b] w w'
theorem putRep (h : Rep w b ns c) (hl : c.buf.length < c.cap) (k n : Int) (s : ByteArray) :
    Calls Tryd.prog 44 #[.pointer (some ⟨b, 3, none⟩), valV k n s] w (putPost w b ns c ⟨k, n, s⟩) := by
  obtain ⟨g, f, hb, hg⟩ := h.ex
  have hc := hg.cap
  refine (put_any b f c.buf.length _ k n s w g hb hg.g51 hg.g52 hg.lt (by omega) rfl).mono ?_
  rintro e w' ⟨rfl, hb', hf'⟩
  exact ⟨rfl, ⟨⟨_, f, hb', hg.put hl ⟨k, n, s⟩ rfl⟩, h.chain.fr hf' h.notin, h.nd⟩, hf'⟩
def takePost (w : World) (b : Nat) (ns : List Nat) (c : Cn.St) (v : Cn.V) (r : List Cn.V) (e : Ending) (w' : World) : Prop := e = .returned (valV v.k v.n v.s) ∧ Rep w' b ns { c with buf := r } ∧ Fr [b] w w'
theorem takeRep (h : Rep w b ns c) {v : Cn.V} {r : List Cn.V} (hl : c.buf = v :: r) :
    Calls Tryd.prog 43 #[.pointer (some ⟨b, 3, none⟩)] w (takePost w b ns c v r) := by
  obtain ⟨g, f, hb, hg⟩ := h.ex
  have hc := hg.cap
  have hlen := hg.len
  have hr := hg.ring 0 v (by rw [hl]; rfl)
  have e0 : (f + 0) % 16 = f := Nat.mod_eq_of_lt hg.lt
  rw [e0] at hr
  have hpos : 0 < c.buf.length := by rw [hl]; simp
  refine (ringTake_any b f c.buf.length v.k v.n v.s w g hb hg.g51 hg.g52 hg.lt (by omega) hpos hr.1 hr.2.1 hr.2.2).mono ?_
  rintro e w' ⟨rfl, hb', hf'⟩
  exact ⟨rfl, ⟨⟨_, _, hb', hg.take hl⟩, h.chain.fr hf' h.notin, h.nd⟩, hf'⟩
end Go.Proofs.YtlibkhndekgnfaaDoor
