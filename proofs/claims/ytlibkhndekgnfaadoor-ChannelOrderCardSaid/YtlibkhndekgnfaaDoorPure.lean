/- What the calls of a channel keep. -/
import Derived.Test.YtlibkhndekgnfaaDoorRun
namespace Go.Proofs.YtlibkhndekgnfaaDoor
open Go.RowKit

namespace Cn
theorem pick_len {p : Wt → Bool} : ∀ {ws : List Wt} {x : Wt} {r : List Wt}, pick p ws = some (x, r) → ws.length = r.length + 1
  | [], _, _, h => by simp [pick] at h
  | y :: ws, x, r, h => by
    unfold pick at h
    split at h
    · cases h; simp
    · cases hq : pick p ws with
      | none => rw [hq] at h; cases h
      | some q =>
        obtain ⟨x', r'⟩ := q
        rw [hq] at h
        simp at h
        obtain ⟨rfl, rfl⟩ := h
        simp [pick_len hq]
theorem rest_len (p : Wt → Bool) (ws : List Wt) : (rest p ws).length ≤ ws.length := by
  unfold rest
  cases h : pick p ws with
  | none => simp
  | some q => obtain ⟨x, r⟩ := q; simp [pick_len h]

structure Keeps (c d : St) : Prop where
  cap : d.cap = c.cap
  pol : d.pol = c.pol
  wl : c.wait.length ≤ 200 → d.wait.length ≤ 200
  dr : d.dropped ≤ c.dropped + 1
theorem Keeps.refl (c : St) : Keeps c c := ⟨rfl, rfl, id, by omega⟩

theorem store_keeps (c : St) (v : V) : Keeps c (store c v).1 := by
  unfold store
  split
  · exact ⟨rfl, rfl, id, by simp⟩
  · split
    · exact Keeps.refl c
    · split
      · exact ⟨rfl, rfl, id, by simp⟩
      · exact ⟨rfl, rfl, id, by simp⟩
theorem offer_keeps (c : St) (v : V) : Keeps c (offer c v).1 := by
  unfold offer
  split
  · exact Keeps.refl c
  · split
    · rename_i h; exact ⟨rfl, rfl, fun hw => by have := pick_len h; simp; omega, by simp⟩
    · exact store_keeps c v
theorem take_keeps (c : St) : Keeps c (take c).1 := by
  unfold take
  split
  · rename_i h; exact ⟨rfl, rfl, fun hw => by have := pick_len h; simp; omega, by simp⟩
  · exact ⟨rfl, rfl, id, by simp⟩
  · rename_i h; exact ⟨rfl, rfl, fun hw => by have := pick_len h; simp; omega, by simp⟩
  · split <;> exact Keeps.refl c
theorem store_bal (c : St) (v : V) (hl : c.buf.length ≤ c.cap) : (store c v).1.dropped + (store c v).1.buf.length = c.dropped + c.buf.length + (if (store c v).2 then 1 else 0) := by
  unfold store
  split
  · simp; omega
  · rename_i h1
    split
    · simp
    · split
      · rename_i h3
        have h4 : 0 < c.buf.length := by omega
        simp; omega
      · simp; omega
/-- What comes in is what goes out, is dropped, or stays. -/
theorem offer_bal (c : St) (v : V) (hl : c.buf.length ≤ c.cap) :
    (offer c v).1.dropped + (offer c v).1.buf.length + (if (offer c v).2.2.2 && !(offer c v).2.2.1 then (offer c v).2.1.length else 0) = c.dropped + c.buf.length + (if (offer c v).2.2.2 && !(offer c v).2.2.1 then 1 else 0) := by
  unfold offer
  split
  · simp
  · split
    · simp
    · have := store_bal c v hl
      cases h : (store c v).2 <;> simp [h] at this ⊢ <;> omega
theorem take_bal (c : St) :
    (take c).1.dropped + (take c).1.buf.length + (if (take c).2.2.2.2 && !(take c).2.2.2.1 then 1 else 0) = c.dropped + c.buf.length + (if (take c).2.2.2.2 && !(take c).2.2.2.1 then (take c).2.2.1.length else 0) := by
  unfold take
  split
  · rename_i h _; (simp [h]; try omega)
  · rename_i h _; (simp [h]; try omega)
  · rename_i h _; (simp [h]; try omega)
  · rename_i h _; split <;> simp
theorem offer_deals (c : St) (v : V) : (offer c v).2.1.length ≤ 1 := by
  unfold offer
  split
  · simp
  · split <;> simp
theorem take_deals (c : St) : (take c).2.2.1.length ≤ 1 := by
  unfold take
  split <;> (try simp)
  split <;> simp
end Cn

theorem park_keeps (c : Cn.St) (t : Int) (sd : Bool) (v : Cn.V) : Cn.Keeps c (park c t sd v).1 := by
  unfold park
  split
  · exact Cn.Keeps.refl c
  · split
    · exact Cn.Keeps.refl c
    · exact ⟨rfl, rfl, fun hw => by simp; omega, by simp⟩
theorem step_keeps (c : Cn.St) (o : Op) : Cn.Keeps c (step c o) := by
  unfold step
  split
  · split
    · exact Cn.offer_keeps c o.v
    · exact Cn.Keeps.refl c
  · split
    · exact Cn.take_keeps c
    · split
      · split
        · exact Cn.Keeps.refl c
        · exact park_keeps c o.t o.send o.v
      · split
        · exact ⟨rfl, rfl, fun hw => Nat.le_trans (Cn.rest_len _ _) hw, by simp⟩
        · split
          · split
            · exact Cn.Keeps.refl c
            · exact ⟨rfl, rfl, fun hw => by simp, by simp⟩
          · exact Cn.Keeps.refl c
theorem park_same (c : Cn.St) (t : Int) (sd : Bool) (v : Cn.V) : (park c t sd v).1.dropped = c.dropped ∧ (park c t sd v).1.buf = c.buf := by
  unfold park
  split
  · exact ⟨rfl, rfl⟩
  · split <;> exact ⟨rfl, rfl⟩
theorem step_other (c : Cn.St) (o : Op) (h0 : o.kd ≠ 0) (h1 : o.kd ≠ 1) : (step c o).dropped = c.dropped ∧ (step c o).buf = c.buf := by
  unfold step
  rw [if_neg h0, if_neg h1]
  split
  · split
    · exact ⟨rfl, rfl⟩
    · exact park_same c o.t o.send o.v
  · split
    · exact ⟨rfl, rfl⟩
    · split
      · split <;> exact ⟨rfl, rfl⟩
      · exact ⟨rfl, rfl⟩

/-- The channel behind a call. -/
theorem Own.next {w0 w w' : World} {b : Nat} {ns : List Nat} {c d : Cn.St} (h : Own w0 w b ns c) (hk : Cn.Keeps c d) (hd : c.dropped < 4611686018427386000) (hs : stepPost w b ns d w') (hz : w0.heap.size ≤ w.heap.size) : ∃ ns', Own w0 w' b ns' d ∧ Below w0.heap.size w w' ∧ (∀ x ∈ ns', x ∈ ns ∨ w.heap.size ≤ x) ∧ Fr (b :: ns) w w' := by
  obtain ⟨ns', hs', hR, hF⟩ := hs
  refine ⟨ns', ⟨hR, fun x hx => ?_, h.env.fr hF (fun hm => by have := h.ge 0 hm; have := h.pos; omega), h.pos, hk.wl h.wl, by have := hk.dr; omega⟩, hF.below h.ge hz, hs', hF⟩
  rcases List.mem_cons.1 hx with rfl | hx
  · exact h.ge x (by simp)
  · rcases hs' x hx with hx | hx
    · exact h.ge x (List.mem_cons_of_mem _ hx)
    · omega
theorem Own.below {w0 w w' : World} {b : Nat} {ns : List Nat} {c : Cn.St} (h : Own w0 w b ns c) (hb : Below w.heap.size w w') : Own w0 w' b ns c := ⟨h.rep.below hb, h.ge, h.env.below hb, h.pos, h.wl, h.dr⟩
theorem Own.positive {w0 w : World} {b : Nat} {ns : List Nat} {c : Cn.St} (h : Own w0 w b ns c) : ∀ x ∈ b :: ns, 0 < x := fun x hx => by have := h.ge x hx; have := h.pos; omega
end Go.Proofs.YtlibkhndekgnfaaDoor
