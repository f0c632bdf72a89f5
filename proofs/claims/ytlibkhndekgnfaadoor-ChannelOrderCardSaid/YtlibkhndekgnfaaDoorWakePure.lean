/- Nobody waits for what could be had. -/
import Derived.Test.YtlibkhndekgnfaaDoorSteps
namespace Go.Proofs.YtlibkhndekgnfaaDoor
open Go.RowKit

namespace Cn
theorem pick_mem {p : Wt → Bool} : ∀ {ws : List Wt} {x : Wt} {r : List Wt}, pick p ws = some (x, r) → x ∈ ws ∧ p x = true ∧ ∀ y ∈ r, y ∈ ws
  | [], _, _, h => by simp [pick] at h
  | y :: ws, x, r, h => by
    unfold pick at h
    split at h
    · rename_i hp
      cases h
      exact ⟨by simp, hp, fun z hz => List.mem_cons_of_mem _ hz⟩
    · cases hq : pick p ws with
      | none => rw [hq] at h; cases h
      | some q =>
        obtain ⟨x', r'⟩ := q
        rw [hq] at h
        simp at h
        obtain ⟨rfl, rfl⟩ := h
        obtain ⟨h1, h2, h3⟩ := pick_mem hq
        refine ⟨List.mem_cons_of_mem _ h1, h2, fun z hz => ?_⟩
        rcases List.mem_cons.1 hz with rfl | hz
        · simp
        · exact List.mem_cons_of_mem _ (h3 z hz)
theorem pick_no {p : Wt → Bool} : ∀ {ws : List Wt}, pick p ws = none → ∀ y ∈ ws, p y = false
  | [], _, y, hy => by simp at hy
  | x :: ws, h, y, hy => by
    unfold pick at h
    split at h
    · cases h
    · rename_i hp
      cases hq : pick p ws with
      | some q => rw [hq] at h; cases h
      | none =>
        rcases List.mem_cons.1 hy with rfl | hy
        · simpa using hp
        · exact pick_no hq y hy
theorem rest_sub {p : Wt → Bool} {ws : List Wt} : ∀ y ∈ rest p ws, y ∈ ws := fun y hy => by
  unfold rest at hy
  cases h : pick p ws with
  | none => rw [h] at hy; exact hy
  | some q => obtain ⟨x, r⟩ := q; rw [h] at hy; exact (pick_mem h).2.2 y hy

/-- Nobody waits for what could be had. -/
structure Q (c : St) : Prop where
  s : ∀ x ∈ c.wait, x.send = true → c.closed = false ∧ (∀ y ∈ c.wait, y.send = true) ∧ c.cap ≤ c.buf.length ∧ c.pol = 0
  r : ∀ x ∈ c.wait, x.send = false → c.closed = false ∧ (∀ y ∈ c.wait, y.send = false) ∧ c.buf = []
  z : ∀ x ∈ c.wait, x.v.s.size ≤ 9223372036854775807

variable {c : St}
theorem Q.sub (h : Q c) {ws : List Wt} (hs : ∀ y ∈ ws, y ∈ c.wait) : Q { c with wait := ws } :=
  ⟨fun x hx hp => have ⟨h1, h2, h3⟩ := h.s x (hs x hx) hp; ⟨h1, fun y hy => h2 y (hs y hy), h3⟩,
   fun x hx hp => have ⟨h1, h2, h3⟩ := h.r x (hs x hx) hp; ⟨h1, fun y hy => h2 y (hs y hy), h3⟩, fun x hx => h.z x (hs x hx)⟩
theorem Q.nil (hw : c.wait = []) : Q c := ⟨fun x hx => by rw [hw] at hx; simp at hx, fun x hx => by rw [hw] at hx; simp at hx, fun x hx => by rw [hw] at hx; simp at hx⟩
theorem none_waits (hr : pick isR c.wait = none) (hs : pick isS c.wait = none) : c.wait = [] := by
  refine List.eq_nil_iff_forall_not_mem.2 fun x hx => ?_
  have h1 := pick_no hr x hx
  have h2 := pick_no hs x hx
  simp [isR, isS] at h1 h2
  rw [h1] at h2; cases h2

theorem Q.offer (h : Q c) (v : V) (hd : (offer c v).2.2.2 = true) : Q (offer c v).1 := by
  unfold Cn.offer at hd ⊢
  split
  · exact h
  · rename_i hc
    rw [if_neg hc] at hd
    cases hp : pick isR c.wait with
    | some q => obtain ⟨x, r⟩ := q; exact h.sub (pick_mem hp).2.2
    | none =>
      rw [hp] at hd
      simp only at hd ⊢
      have hs : ∀ x ∈ c.wait, x.send = true := fun x hx => by have := pick_no hp x hx; simpa [isR] using this
      have hw : c.wait = [] ∨ (c.cap ≤ c.buf.length ∧ c.pol = 0) := by
        cases e : c.wait with
        | nil => exact .inl rfl
        | cons x r => exact .inr (h.s x (by rw [e]; simp) (hs x (by rw [e]; simp))).2.2
      rcases hw with hw | ⟨h1, h2⟩
      · refine Q.nil ?_
        unfold store
        split
        · exact hw
        · split
          · exact hw
          · split <;> exact hw
      · exfalso
        unfold store at hd
        rw [if_neg (by omega), if_pos h2] at hd
        cases hd
theorem offer_same (v : V) (hd : (Cn.offer c v).2.2.2 = false) : (Cn.offer c v).1 = c ∧ c.closed = false ∧ pick isR c.wait = none ∧ c.cap ≤ c.buf.length ∧ c.pol = 0 := by
  unfold Cn.offer at hd ⊢
  split
  · rename_i hc; rw [if_pos hc] at hd; cases hd
  · rename_i hc
    rw [if_neg hc] at hd
    cases hp : pick isR c.wait with
    | some q => obtain ⟨x, r⟩ := q; rw [hp] at hd; cases hd
    | none =>
      rw [hp] at hd
      simp only at hd ⊢
      unfold store at hd ⊢
      split at hd
      · cases hd
      · rename_i h1
        split at hd
        · rename_i h2
          rw [if_neg h1, if_pos h2]
          exact ⟨rfl, by simpa using hc, by first | trivial | rfl, by omega, h2⟩
        · split at hd <;> cases hd
theorem Q.take (h : Q c) (hd : (take c).2.2.2.2 = true) : Q (take c).1 := by
  unfold Cn.take at hd ⊢
  split
  · rename_i v r w q hb hp
    obtain ⟨h1, h2, h3⟩ := pick_mem hp
    have hs := h.s w h1 h2
    refine ⟨fun x hx hxs => ⟨hs.1, fun y hy => hs.2.1 y (h3 y hy), ?_, hs.2.2.2⟩, fun x hx hxs => ?_, fun x hx => h.z x (h3 x hx)⟩
    · have := hs.2.2.1; rw [hb] at this; simpa using this
    · have := hs.2.1 x (h3 x hx); rw [this] at hxs; cases hxs
  · rename_i v r hb hp
    refine Q.nil ?_
    refine List.eq_nil_iff_forall_not_mem.2 fun x hx => ?_
    have hxs : x.send = false := by have := pick_no hp x hx; simpa [isS] using this
    have := (h.r x hx hxs).2.2
    rw [hb] at this; cases this
  · rename_i w q hb hp
    exact h.sub (pick_mem hp).2.2
  · split <;> exact h
theorem take_same (hd : (Cn.take c).2.2.2.2 = false) : (Cn.take c).1 = c ∧ c.closed = false ∧ pick isS c.wait = none ∧ c.buf = [] := by
  unfold Cn.take at hd ⊢
  split at hd
  · cases hd
  · cases hd
  · cases hd
  · rename_i hb hp
    split at hd
    · cases hd
    · rename_i hc
      refine ⟨?_, by simpa using hc, hp, hb⟩
      simp [hb, hp, hc]
theorem offer_fl (v : V) (hd : (Cn.offer c v).2.2.2 = false) : (Cn.offer c v).2.2.1 = false := by
  obtain ⟨-, h1, h2, h3, h4⟩ := offer_same v hd
  unfold Cn.offer
  rw [h1, if_neg (by simp), h2]
theorem take_fl (hd : (Cn.take c).2.2.2.2 = false) : (Cn.take c).2.2.2.1 = false := by
  obtain ⟨-, h1, h2, h3⟩ := take_same hd
  unfold Cn.take
  rw [h3, h2, h1]
  all_goals rfl
theorem Q.offer_not (h : Q c) {x : Wt} (hx : x ∈ c.wait) (hs : x.send = true) (v : V) : (Cn.offer c v).2.2.2 = false := by
  obtain ⟨h1, h2, h3, h4⟩ := h.s x hx hs
  have hp : pick isR c.wait = none := pick_none fun y hy => by simp [isR, h2 y hy]
  unfold Cn.offer
  rw [h1, if_neg (by simp), hp]
  simp only
  unfold store
  rw [if_neg (by omega), if_pos h4]
theorem Q.take_not (h : Q c) {x : Wt} (hx : x ∈ c.wait) (hs : x.send = false) : (Cn.take c).2.2.2.2 = false := by
  obtain ⟨h1, h2, h3⟩ := h.r x hx hs
  have hp : pick isS c.wait = none := pick_none fun y hy => by simp [isS, h2 y hy]
  unfold Cn.take
  rw [h3, hp, h1]
  rfl
theorem Q.new (k : Nat) (p : Int) : Q (newSt k p) := Q.nil rfl
end Cn

theorem park_send {c : Cn.St} (h : Cn.Q c) (t : Int) (v : Cn.V) (hv : v.s.size ≤ 9223372036854775807) (hd : (Cn.offer c v).2.2.2 = false) : Cn.Q (park c t true v).1 := by
  obtain ⟨-, h1, h2, h3, h4⟩ := Cn.offer_same v hd
  have hs : ∀ y ∈ c.wait, y.send = true := fun y hy => by have := Cn.pick_no h2 y hy; simpa [Cn.isR] using this
  unfold park
  split
  · exact h
  · split
    · exact h
    · have hall : ∀ y ∈ c.wait ++ [⟨t, true, v⟩], y.send = true := fun y hy => by
        rcases List.mem_append.1 hy with hy | hy
        · exact hs y hy
        · simp at hy; subst hy; rfl
      refine ⟨fun x hx _ => ⟨h1, hall, h3, h4⟩, fun x hx hxs => ?_, fun x hx => ?_⟩
      · have := hall x hx; rw [this] at hxs; cases hxs
      · rcases List.mem_append.1 hx with hx | hx
        · exact h.z x hx
        · simp at hx; subst hx; exact hv
theorem park_receive {c : Cn.St} (h : Cn.Q c) (t : Int) (v : Cn.V) (hd : (Cn.take c).2.2.2.2 = false) : Cn.Q (park c t false v).1 := by
  obtain ⟨-, h1, h2, h3⟩ := Cn.take_same hd
  have hs : ∀ y ∈ c.wait, y.send = false := fun y hy => by have := Cn.pick_no h2 y hy; simpa [Cn.isS] using this
  unfold park
  split
  · exact h
  · split
    · exact h
    · have hall : ∀ y ∈ c.wait ++ [⟨t, false, Cn.zero⟩], y.send = false := fun y hy => by
        rcases List.mem_append.1 hy with hy | hy
        · exact hs y hy
        · simp at hy; subst hy; rfl
      refine ⟨fun x hx hxs => ?_, fun x hx _ => ⟨h1, hall, h3⟩, fun x hx => ?_⟩
      · have := hall x hx; rw [this] at hxs; cases hxs
      · rcases List.mem_append.1 hx with hx | hx
        · exact h.z x hx
        · simp at hx; subst hx; exact (by decide : ByteArray.size ⟨#[]⟩ ≤ 9223372036854775807)
end Go.Proofs.YtlibkhndekgnfaaDoor
