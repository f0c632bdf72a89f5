/- Values are received in the order in which they were sent. -/
import Derived.Test.YtlibkhndekgnfaaDoorWakePure
namespace Go.Proofs.YtlibkhndekgnfaaDoor
open Go.RowKit

namespace Cn
def wq (c : St) : List Int := (c.wait.filter isS).map fun x => x.v.n
def xs (R : List Int) (c : St) : List Int := R ++ (c.buf.map (fun v => v.n) ++ wq c)

/-- After i steps: what was sent, what was received, the channel. -/
structure Fl (i : Nat) (p : Int) (S R : List Int) (c : St) : Prop where
  q : Q c
  pol : c.pol = p
  op : c.closed = false
  srt : List.Pairwise (· < ·) (xs R c)
  rng : ∀ x ∈ xs R c, x < (i : Int)
  eq : c.dropped = 0 → S = xs R c
  len : S.length = (xs R c).length + c.dropped
  drp : 0 < c.dropped → p ≠ 0
  tick : ∀ x ∈ c.wait, x.t ≤ i
  wl : c.wait.length ≤ i
  sl : S.length ≤ i

variable {i : Nat} {p : Int} {S R : List Int} {c : St}

theorem Fl.build (h : Fl i p S R c) {R' : List Int} {c' : St} (e : List Int) (he : e = [] ∨ e = [(i : Int)]) (hq : Q c') (hpol : c'.pol = c.pol) (hop : c'.closed = false)
    (hsub : List.Sublist (xs R' c') (xs R c ++ e)) (heq : c'.dropped = 0 → c.dropped = 0 ∧ xs R' c' = xs R c ++ e) (hlen : (xs R' c').length + c'.dropped = (xs R c).length + c.dropped + e.length)
    (hdrp : c'.dropped ≠ c.dropped → p ≠ 0) (htick : ∀ x ∈ c'.wait, x ∈ c.wait ∨ x.t = (i : Int) + 1) (hwl : c'.wait.length ≤ c.wait.length + 1) : Fl (i + 1) p (S ++ e) R' c' := by
  have hs : List.Pairwise (· < ·) (xs R c ++ e) := by
    refine List.pairwise_append.2 ⟨h.srt, ?_, fun a ha b hb => ?_⟩
    · rcases he with rfl | rfl <;> simp
    · rcases he with rfl | rfl
      · simp at hb
      · simp at hb; subst hb; exact h.rng a ha
  have hr : ∀ x ∈ xs R c ++ e, x < ((i + 1 : Nat) : Int) := fun x hx => by
    rcases List.mem_append.1 hx with hx | hx
    · have := h.rng x hx; omega
    · rcases he with rfl | rfl
      · simp at hx
      · simp at hx; omega
  have hel : e.length ≤ 1 := by rcases he with rfl | rfl <;> simp
  refine ⟨hq, hpol.trans h.pol, hop, hs.sublist hsub, fun x hx => hr x (hsub.subset hx), fun h0 => ?_, ?_, fun h0 => ?_, fun x hx => ?_, ?_, ?_⟩
  · obtain ⟨h1, h2⟩ := heq h0
    rw [h2, h.eq h1]
  · have := h.len; simp; omega
  · by_cases hd : c'.dropped = c.dropped
    · exact h.drp (by omega)
    · exact hdrp hd
  · rcases htick x hx with h1 | h1
    · have := h.tick x h1; omega
    · omega
  · have := h.wl; omega
  · have := h.sl; simp; omega

theorem wq_nil (h : ∀ x ∈ c.wait, x.send = false) : wq c = [] := by
  have : c.wait.filter isS = [] := List.filter_eq_nil_iff.2 fun x hx => by simp [isS, h x hx]
  simp [wq, this]
theorem wq_all (h : ∀ x ∈ c.wait, x.send = true) : wq c = c.wait.map fun x => x.v.n := by
  have : c.wait.filter isS = c.wait := List.filter_eq_self.2 fun x hx => by simp [isS, h x hx]
  simp [wq, this]
theorem pick_head {l : List Wt} (h : ∀ x ∈ l, x.send = true) {w : Wt} {r : List Wt} (hp : pick isS l = some (w, r)) : l = w :: r := by
  cases l with
  | nil => simp [pick] at hp
  | cons a l =>
    unfold pick at hp
    rw [if_pos (by simp [isS, h a (by simp)])] at hp
    cases hp; rfl

theorem Fl.send_done (h : Fl i p S R c) (hd : (offer c ⟨1, i, ⟨#[]⟩⟩).2.2.2 = true) :
    Fl (i + 1) p (S ++ [(i : Int)]) (R ++ (offer c ⟨1, i, ⟨#[]⟩⟩).2.1.map (fun d => d.v.n)) (offer c ⟨1, i, ⟨#[]⟩⟩).1 ∧ (offer c ⟨1, i, ⟨#[]⟩⟩).2.2.1 = false := by
  have hq := h.q.offer ⟨1, i, ⟨#[]⟩⟩ hd
  unfold Cn.offer at hd hq ⊢
  rw [if_neg (by simp [h.op])] at hd hq ⊢
  cases hp : pick isR c.wait with
  | some q =>
    obtain ⟨x, r⟩ := q
    rw [hp] at hq hd
    simp only at hq ⊢
    obtain ⟨h1, h2, h3⟩ := pick_mem hp
    obtain ⟨-, ha, hb⟩ := h.q.r x h1 (by simpa [isR] using h2)
    have hw1 : wq c = [] := wq_nil ha
    have hw2 : wq { c with wait := r } = [] := wq_nil fun y hy => ha y (h3 y hy)
    have e1 : xs R c = R := by simp [xs, hb, hw1]
    have e2 : xs (R ++ [(i : Int)]) { c with wait := r } = R ++ [(i : Int)] := by rw [xs, hw2]; simp [hb]
    refine ⟨h.build [(i : Int)] (.inr rfl) hq rfl h.op ?_ (fun h0 => ⟨h0, ?_⟩) ?_ (fun hne => absurd rfl hne) (fun y hy => .inl (h3 y hy)) ?_, by first | trivial | rfl⟩
    · show List.Sublist (xs (R ++ [(i : Int)]) _) _; rw [e1, e2]; exact List.Sublist.refl _
    · show xs (R ++ [(i : Int)]) _ = _; rw [e1, e2]
    · show (xs (R ++ [(i : Int)]) _).length + c.dropped = _; rw [e1, e2]; simp; omega
    · have := pick_len hp; simp; omega
  | none =>
    rw [hp] at hd hq
    simp only at hd hq ⊢
    have hs : ∀ x ∈ c.wait, x.send = true := fun x hx => by have := pick_no hp x hx; simpa [isR] using this
    have hw : c.wait = [] ∨ (c.cap ≤ c.buf.length ∧ c.pol = 0) := by
      cases e : c.wait with
      | nil => exact .inl rfl
      | cons x r => exact .inr (h.q.s x (by rw [e]; simp) (hs x (by rw [e]; simp))).2.2
    unfold store at hd hq ⊢
    split at hd
    · rename_i hl
      rw [if_pos hl] at hq
      rw [if_pos hl]
      have hn : c.wait = [] := by rcases hw with h1 | h1; exact h1; omega
      have e1 : xs (R ++ []) { c with buf := c.buf ++ [⟨1, (i : Int), ⟨#[]⟩⟩] } = xs R c ++ [(i : Int)] := by simp [xs, wq, hn]
      refine ⟨h.build [(i : Int)] (.inr rfl) hq rfl h.op ?_ (fun h0 => ⟨h0, e1⟩) ?_ (fun hne => absurd rfl hne) (fun y hy => .inl hy) (by simp), by first | trivial | rfl⟩
      · show List.Sublist (xs (R ++ []) _) _; rw [e1]; exact List.Sublist.refl _
      · show (xs (R ++ []) _).length + c.dropped = _; rw [e1]; simp; omega
    · rename_i hl
      rw [if_neg hl] at hq
      rw [if_neg hl]
      split at hd
      · cases hd
      · rename_i hp0
        rw [if_neg hp0] at hq
        rw [if_neg hp0]
        have hn : c.wait = [] := by rcases hw with h1 | h1; exact h1; exact absurd h1.2 hp0
        split at hd
        · rename_i h3
          rw [if_pos h3] at hq
          rw [if_pos h3]
          cases hb : c.buf with
          | nil => rw [hb] at hl; simp at hl; omega
          | cons y l =>
            rw [hb] at hq
            have e1 : xs (R ++ []) { c with buf := (y :: l).tail ++ [⟨1, (i : Int), ⟨#[]⟩⟩], dropped := c.dropped + 1 } = R ++ (l.map (fun v => v.n) ++ [(i : Int)]) := by simp [xs, wq, hn]
            have e2 : xs R c = R ++ (y.n :: l.map (fun v => v.n)) := by simp [xs, wq, hn, hb]
            refine ⟨h.build [(i : Int)] (.inr rfl) hq rfl h.op ?_ (fun h0 => by simp at h0) ?_ (fun _ => by rw [← h.pol]; exact hp0) (fun y hy => .inl hy) (by simp), by first | trivial | rfl⟩
            · show List.Sublist (xs (R ++ []) _) _
              rw [e1, e2, List.append_assoc]
              exact List.Sublist.append (List.Sublist.refl _) (List.Sublist.append (List.sublist_cons_self _ _) (List.Sublist.refl _))
            · show (xs (R ++ []) _).length + (c.dropped + 1) = _
              rw [e1, e2]; simp; omega
        · rename_i h3
          rw [if_neg h3] at hq
          rw [if_neg h3]
          have e1 : xs (R ++ []) { c with dropped := c.dropped + 1 } = xs R c := by simp [xs, wq]
          refine ⟨h.build [(i : Int)] (.inr rfl) hq rfl h.op ?_ (fun h0 => by simp at h0) ?_ (fun _ => by rw [← h.pol]; exact hp0) (fun y hy => .inl hy) (by simp), by first | trivial | rfl⟩
          · show List.Sublist (xs (R ++ []) _) _
            rw [e1]; exact List.sublist_append_left _ _
          · show (xs (R ++ []) _).length + (c.dropped + 1) = _
            rw [e1]; simp; omega

theorem Fl.take_done (h : Fl i p S R c) (hd : (take c).2.2.2.2 = true) :
    Fl (i + 1) p S (R ++ [(take c).2.1.n]) (take c).1 ∧ (take c).2.2.2.1 = false := by
  have hq := h.q.take hd
  rw [← List.append_nil S]
  unfold Cn.take at hd hq ⊢
  split
  · rename_i v r w q hb hp
    rw [hb, hp] at hq
    simp only at hq ⊢
    obtain ⟨h1, h2, h3⟩ := pick_mem hp
    have ha := (h.q.s w h1 (by simpa [isS] using h2)).2.1
    have hl := pick_head ha hp
    have hw2 : wq { c with buf := r ++ [w.v], wait := q } = q.map fun x => x.v.n := wq_all fun y hy => ha y (h3 y hy)
    have e1 : xs (R ++ [v.n]) { c with buf := r ++ [w.v], wait := q } = xs R c := by
      rw [xs, hw2, xs, wq_all ha, hl, hb]; simp
    refine ⟨h.build [] (.inl rfl) hq rfl h.op ?_ (fun h0 => ⟨h0, ?_⟩) ?_ (fun hne => absurd rfl hne) (fun y hy => .inl (h3 y hy)) ?_, by first | trivial | rfl⟩
    · rw [e1, List.append_nil]; exact List.Sublist.refl _
    · rw [e1, List.append_nil]
    · rw [e1]; simp
    · have := pick_len hp; simp; omega
  · rename_i v r hb hp
    rw [hb, hp] at hq
    simp only at hq ⊢
    have e1 : xs (R ++ [v.n]) { c with buf := r } = xs R c := by simp [xs, wq, hb]
    refine ⟨h.build [] (.inl rfl) hq rfl h.op ?_ (fun h0 => ⟨h0, ?_⟩) ?_ (fun hne => absurd rfl hne) (fun y hy => .inl hy) (by simp), by first | trivial | rfl⟩
    · rw [e1, List.append_nil]; exact List.Sublist.refl _
    · rw [e1, List.append_nil]
    · rw [e1]; simp
  · rename_i w q hb hp
    clear hq
    simp only
    obtain ⟨h1, h2, h3⟩ := pick_mem hp
    have hq : Q { c with wait := q } := h.q.sub h3
    have ha := (h.q.s w h1 (by simpa [isS] using h2)).2.1
    have hl := pick_head ha hp
    have hw2 : wq { c with wait := q } = q.map fun x => x.v.n := wq_all fun y hy => ha y (h3 y hy)
    have e1 : xs (R ++ [w.v.n]) { c with wait := q } = xs R c := by
      rw [xs, hw2, xs, wq_all ha, hl, hb]; simp
    refine ⟨h.build [] (.inl rfl) hq rfl h.op ?_ (fun h0 => ⟨h0, ?_⟩) ?_ (fun hne => absurd rfl hne) (fun y hy => .inl (h3 y hy)) ?_, by first | trivial | rfl⟩
    · rw [e1, List.append_nil]; exact List.Sublist.refl _
    · rw [e1, List.append_nil]
    · rw [e1]; simp
    · have := pick_len hp; simp; omega
  · rename_i hb hp
    simp [hb, hp, h.op] at hd
end Cn

theorem fl_send_park {i : Nat} {p : Int} {S R : List Int} {c : Cn.St} (h : Cn.Fl i p S R c) (hd : (Cn.offer c ⟨1, i, ⟨#[]⟩⟩).2.2.2 = false) (hi : i < 200) :
    Cn.Fl (i + 1) p (S ++ [(i : Int)]) R (park c ((i : Int) + 1) true ⟨1, i, ⟨#[]⟩⟩).1 ∧ (park c ((i : Int) + 1) true ⟨1, i, ⟨#[]⟩⟩).2 = 0 := by
  have hn : c.wait.any (fun x => x.t == (i : Int) + 1) = false := by
    simp only [List.any_eq_false, beq_iff_eq]
    intro x hx; have := h.tick x hx; omega
  have hl : ¬ 200 ≤ c.wait.length := by have := h.wl; omega
  have hq := park_send h.q ((i : Int) + 1) ⟨1, i, ⟨#[]⟩⟩ (show ByteArray.size ⟨#[]⟩ ≤ 9223372036854775807 by decide) hd
  unfold park at hq ⊢
  rw [hn, if_neg (by simp), if_neg hl] at hq ⊢
  have e1 : Cn.xs R { c with wait := c.wait ++ [⟨(i : Int) + 1, true, if true = true then ⟨1, i, ⟨#[]⟩⟩ else Cn.zero⟩] } = Cn.xs R c ++ [(i : Int)] := by simp [Cn.xs, Cn.wq, List.filter_append, List.filter_cons, Cn.isS]
  refine ⟨h.build [(i : Int)] (.inr rfl) hq rfl h.op ?_ (fun h0 => ⟨h0, e1⟩) ?_ (fun hne => absurd rfl hne) (fun y hy => ?_) (by simp), rfl⟩
  · show List.Sublist (Cn.xs R _) _; rw [e1]; exact List.Sublist.refl _
  · show (Cn.xs R _).length + c.dropped = _; rw [e1]; simp; omega
  · rcases List.mem_append.1 hy with hy | hy
    · exact .inl hy
    · simp at hy; subst hy; exact .inr rfl
theorem fl_take_park {i : Nat} {p : Int} {S R : List Int} {c : Cn.St} (h : Cn.Fl i p S R c) (v : Cn.V) (hd : (Cn.take c).2.2.2.2 = false) (hi : i < 200) :
    Cn.Fl (i + 1) p S R (park c ((i : Int) + 1) false v).1 ∧ (park c ((i : Int) + 1) false v).2 = 0 := by
  have hn : c.wait.any (fun x => x.t == (i : Int) + 1) = false := by
    simp only [List.any_eq_false, beq_iff_eq]
    intro x hx; have := h.tick x hx; omega
  have hl : ¬ 200 ≤ c.wait.length := by have := h.wl; omega
  have hq := park_receive h.q ((i : Int) + 1) v hd
  rw [← List.append_nil S]
  unfold park at hq ⊢
  rw [hn, if_neg (by simp), if_neg hl] at hq ⊢
  have e1 : Cn.xs R { c with wait := c.wait ++ [⟨(i : Int) + 1, false, if false = true then v else Cn.zero⟩] } = Cn.xs R c := by simp [Cn.xs, Cn.wq, List.filter_append, List.filter_cons, Cn.isS]
  refine ⟨h.build [] (.inl rfl) hq rfl h.op ?_ (fun h0 => ⟨h0, ?_⟩) ?_ (fun hne => absurd rfl hne) (fun y hy => ?_) (by simp), rfl⟩
  · show List.Sublist (Cn.xs R _) _; rw [e1, List.append_nil]; exact List.Sublist.refl _
  · show Cn.xs R _ = _; rw [e1, List.append_nil]
  · show (Cn.xs R _).length + c.dropped = _; rw [e1]; simp
  · rcases List.mem_append.1 hy with hy | hy
    · exact .inl hy
    · simp at hy; subst hy; exact .inr rfl
theorem Cn.Fl.new (k : Nat) (p : Int) : Cn.Fl 0 p [] [] (newSt k p) := ⟨Cn.Q.new k p, rfl, rfl, by simp [Cn.xs, Cn.wq, newSt], by simp [Cn.xs, Cn.wq, newSt], by simp [Cn.xs, Cn.wq, newSt], by simp [Cn.xs, Cn.wq, newSt], by simp [newSt], by simp [newSt], by simp [newSt], by simp⟩
theorem Cn.Fl.sorted {i : Nat} {p : Int} {S R : List Int} {c : Cn.St} (h : Cn.Fl i p S R c) : R.Pairwise (· < ·) := (List.pairwise_append.1 h.srt).1
theorem Cn.Fl.lens {i : Nat} {p : Int} {S R : List Int} {c : Cn.St} (h : Cn.Fl i p S R c) : R.length + c.dropped ≤ S.length := by have := h.len; simp [Cn.xs] at this; omega
theorem Cn.Fl.same {i : Nat} {p : Int} {S R : List Int} {c : Cn.St} (h : Cn.Fl i p S R c) (hd : c.dropped = 0) : S.take R.length = R := by rw [h.eq hd, Cn.xs]; simp
end Go.Proofs.YtlibkhndekgnfaaDoor
