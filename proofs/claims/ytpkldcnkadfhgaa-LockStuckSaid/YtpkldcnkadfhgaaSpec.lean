/- Locks, plainly: their state, and what each call makes of it. -/
import Derived.Test.YtpkldcnkadfhgaaBase
namespace Go.Proofs.Ytpkldcnkadfhgaa
open Go.RowKit

namespace Lk
/-- Numbers by numbers. -/
abbrev KV := List (Int × Int)
def kget : KV → Int → Int
  | [], _ => 0
  | (a, b) :: r, k => if a = k then b else kget r k
def khas : KV → Int → Bool
  | [], _ => false
  | (a, _) :: r, k => decide (a = k) || khas r k
def kdel (k : Int) (l : KV) : KV := l.filter fun p => !decide (p.1 = k)
def kins (x : Int × Int) : KV → KV
  | [] => [x]
  | y :: r => if x.1 < y.1 then x :: y :: r else y :: kins x r
def kput (k v : Int) (l : KV) : KV := kins (k, v) (kdel k l)
def Asc (l : KV) : Prop := l.Pairwise (fun p q => p.1 < q.1)
def sum (l : KV) : Int := (l.map (·.2)).sum

theorem kget_ins (x : Int × Int) (j : Int) : ∀ l : KV, khas l x.1 = false → kget (kins x l) j = if j = x.1 then x.2 else kget l j
  | [], _ => by
    by_cases h : j = x.1
    · simp [kins, kget, h]
    · simp [kins, kget, h, Ne.symm h]
  | (a, b) :: r, hn => by
    simp only [khas, Bool.or_eq_false_iff, decide_eq_false_iff_not] at hn
    unfold kins
    split
    · by_cases h : j = x.1
      · simp [kget, h]
      · simp [kget, h, Ne.symm h]
    · have ih := kget_ins x j r hn.2
      simp only [kget, ih]
      by_cases h : j = x.1
      · subst h; simp [hn.1]
      · simp [h]
theorem kget_del (k j : Int) : ∀ l : KV, kget (kdel k l) j = if j = k then 0 else kget l j
  | [] => by simp [kdel, kget]
  | (a, b) :: r => by
    have ih := kget_del k j r
    unfold kdel at ih ⊢
    by_cases h : a = k
    · subst h
      simp only [List.filter_cons, decide_true, Bool.not_true, Bool.false_eq_true, if_false, ih, kget]
      by_cases hj : j = a
      · simp [hj]
      · simp [hj, Ne.symm hj]
    · simp only [List.filter_cons, h, decide_false, Bool.not_false, if_true, kget, ih]
      by_cases hj : j = k
      · subst hj; simp [h]
      · simp [hj]
theorem khas_del_same (k : Int) : ∀ l : KV, khas (kdel k l) k = false
  | [] => rfl
  | (a, b) :: r => by
    have ih := khas_del_same k r
    unfold kdel at ih ⊢
    by_cases h : a = k
    · simp [List.filter_cons, h, ih]
    · simp [List.filter_cons, h, ih, khas]
theorem khas_del (k j : Int) : ∀ l : KV, khas (kdel k l) j = (!decide (j = k) && khas l j)
  | [] => by simp [kdel, khas]
  | (a, b) :: r => by
    have ih := khas_del k j r
    unfold kdel at ih ⊢
    by_cases h : a = k
    · subst h
      simp only [List.filter_cons, decide_true, Bool.not_true, Bool.false_eq_true, if_false, ih, khas]
      by_cases hj : j = a
      · simp [hj]
      · simp [hj, Ne.symm hj]
    · simp only [List.filter_cons, h, decide_false, Bool.not_false, if_true, khas, ih]
      by_cases hj : j = k
      · subst hj; simp [h]
      · simp [hj]
theorem kget_put (k v j : Int) (l : KV) : kget (kput k v l) j = if j = k then v else kget l j := by
  unfold kput
  rw [kget_ins _ _ _ (khas_del_same k l), kget_del]
  by_cases h : j = k <;> simp [h]
theorem khas_ins (x : Int × Int) (j : Int) : ∀ l : KV, khas (kins x l) j = (decide (j = x.1) || khas l j)
  | [] => by simp [kins, khas, eq_comm]
  | (a, b) :: r => by
    unfold kins
    split
    · simp [khas, eq_comm]
    · simp only [khas, khas_ins x j r]
      cases decide (j = x.1) <;> cases decide (a = j) <;> simp
theorem khas_put (k v j : Int) (l : KV) : khas (kput k v l) j = (decide (j = k) || khas l j) := by
  unfold kput
  rw [khas_ins, khas_del]
  by_cases h : j = k <;> simp [h]
theorem khas_mem {l : KV} {k : Int} : khas l k = true ↔ ∃ v, (k, v) ∈ l := by
  induction l with
  | nil => simp [khas]
  | cons p r ih =>
    obtain ⟨a, b⟩ := p
    simp only [khas, Bool.or_eq_true, decide_eq_true_eq, ih, List.mem_cons, Prod.mk.injEq]
    constructor
    · rintro (rfl | ⟨v, hv⟩)
      · exact ⟨b, .inl ⟨rfl, rfl⟩⟩
      · exact ⟨v, .inr hv⟩
    · rintro ⟨v, ⟨rfl, -⟩ | hv⟩
      · exact .inl rfl
      · exact .inr ⟨v, hv⟩
theorem kget_zero {l : KV} {k : Int} (h : khas l k = false) : kget l k = 0 := by
  induction l with
  | nil => rfl
  | cons p r ih =>
    obtain ⟨a, b⟩ := p
    simp only [khas, Bool.or_eq_false_iff, decide_eq_false_iff_not] at h
    simp [kget, h.1, ih h.2]
theorem kget_mem {l : KV} {k : Int} (h : khas l k = true) : (k, kget l k) ∈ l := by
  induction l with
  | nil => simp [khas] at h
  | cons p r ih =>
    obtain ⟨a, b⟩ := p
    by_cases ha : a = k
    · subst ha; simp [kget]
    · simp only [khas, ha, decide_false, Bool.false_or] at h
      simp [kget, ha, ih h]
theorem mem_ins {x y : Int × Int} : ∀ {l : KV}, y ∈ kins x l ↔ y = x ∨ y ∈ l
  | [] => by simp [kins]
  | z :: r => by
    unfold kins
    split
    · simp
    · simp only [List.mem_cons, mem_ins (l := r)]
      constructor
      · rintro (h | h | h) <;> simp [h]
      · rintro (h | h | h) <;> simp [h]
theorem mem_put {k v : Int} {y : Int × Int} {l : KV} (h : y ∈ kput k v l) : y = (k, v) ∨ y ∈ l := by
  rcases mem_ins.1 h with h | h
  · exact .inl h
  · exact .inr (List.mem_filter.1 h).1
theorem mem_del {k : Int} {y : Int × Int} {l : KV} (h : y ∈ kdel k l) : y ∈ l ∧ y.1 ≠ k := by
  have := List.mem_filter.1 h
  exact ⟨this.1, by simpa using this.2⟩
theorem Asc.del {l : KV} (h : Asc l) (k : Int) : Asc (kdel k l) := List.Pairwise.filter _ h
theorem Asc.ins {x : Int × Int} : ∀ {l : KV}, Asc l → khas l x.1 = false → Asc (kins x l)
  | [], _, _ => by simp [kins, Asc]
  | y :: r, h, hn => by
    obtain ⟨h1, h2⟩ := List.pairwise_cons.1 h
    obtain ⟨a, b⟩ := y
    simp only [khas, Bool.or_eq_false_iff, decide_eq_false_iff_not] at hn
    unfold kins
    split
    · rename_i hlt
      refine List.pairwise_cons.2 ⟨fun q hq => ?_, h⟩
      rcases List.mem_cons.1 hq with rfl | hq
      · exact hlt
      · have := h1 q hq; simp only at this hlt ⊢; omega
    · rename_i hlt
      refine List.pairwise_cons.2 ⟨fun q hq => ?_, Asc.ins h2 hn.2⟩
      rcases mem_ins.1 hq with rfl | hq
      · simp only at hlt ⊢; omega
      · exact h1 q hq
theorem Asc.put {l : KV} (h : Asc l) (k v : Int) : Asc (kput k v l) := (h.del k).ins (khas_del_same k l)
theorem sum_cons (p : Int × Int) (l : KV) : sum (p :: l) = p.2 + sum l := by simp [sum]
theorem sum_ins (x : Int × Int) : ∀ l : KV, sum (kins x l) = x.2 + sum l
  | [] => by simp [kins, sum]
  | y :: r => by
    unfold kins
    split
    · simp [sum_cons]
    · simp only [sum_cons, sum_ins x r]; omega
theorem sum_del {k : Int} : ∀ {l : KV}, Asc l → sum (kdel k l) = sum l - kget l k
  | [], _ => by simp [kdel, sum, kget]
  | (a, b) :: r, h => by
    obtain ⟨h1, h2⟩ := List.pairwise_cons.1 h
    have ih := sum_del (k := k) h2
    by_cases ha : a = k
    · subst ha
      have e : kdel a r = r := by
        unfold kdel
        rw [List.filter_eq_self]
        intro q hq
        have := h1 q hq
        simp only at this
        have : q.1 ≠ a := by omega
        simp [this]
      have e2 : kdel a ((a, b) :: r) = kdel a r := by simp [kdel]
      rw [e2, e, sum_cons]
      simp only [kget, if_true]; omega
    · have e2 : kdel k ((a, b) :: r) = (a, b) :: kdel k r := by simp [kdel, ha]
      rw [e2, sum_cons, sum_cons, ih]
      simp only [kget, ha, if_false]; omega
theorem sum_put {k v : Int} {l : KV} (h : Asc l) : sum (kput k v l) = sum l - kget l k + v := by
  unfold kput
  rw [sum_ins, sum_del h]
  simp only; omega
theorem kget_le_sum {k : Int} : ∀ {l : KV}, (∀ p ∈ l, 0 ≤ p.2) → kget l k ≤ sum l
  | [], _ => by simp [kget, sum]
  | (a, b) :: r, h => by
    have ih := kget_le_sum (k := k) (l := r) fun p hp => h p (by simp [hp])
    have hb := h (a, b) (by simp)
    simp only at hb
    have h0 : 0 ≤ sum r := by
      clear ih
      have h' : ∀ p ∈ r, 0 ≤ p.2 := fun p hp => h p (by simp [hp])
      clear h hb
      induction r with
      | nil => simp [sum]
      | cons q r ih2 => rw [sum_cons]; have := h' q (by simp); have := ih2 fun p hp => h' p (by simp [hp]); omega
    rw [sum_cons]
    simp only [kget]
    split <;> omega
theorem length_le_sum : ∀ {l : KV}, (∀ p ∈ l, 1 ≤ p.2) → (l.length : Int) ≤ sum l
  | [], _ => by simp [sum]
  | (a, b) :: r, h => by
    have ih := length_le_sum (l := r) fun p hp => h p (by simp [hp])
    have hb := h (a, b) (by simp)
    simp only at hb
    rw [sum_cons]
    simp; omega
theorem del_put (k v : Int) (l : KV) : kdel k (kput k v l) = kdel k l := by
  unfold kput
  have : ∀ m : KV, khas m k = false → kdel k (kins (k, v) m) = m := by
    intro m
    induction m with
    | nil => intro _; simp [kins, kdel]
    | cons y r ih =>
      obtain ⟨a, b⟩ := y
      intro hn
      simp only [khas, Bool.or_eq_false_iff, decide_eq_false_iff_not] at hn
      have hr : kdel k r = r := by
        unfold kdel
        rw [List.filter_eq_self]
        intro q hq
        have : q.1 ≠ k := fun e => by
          have := (khas_mem (l := r) (k := k)).2 ⟨q.2, by rw [← e]; exact hq⟩
          rw [hn.2] at this; cases this
        simp [this]
      unfold kins
      split
      · have e1 : kdel k ((k, v) :: (a, b) :: r) = (a, b) :: kdel k r := by simp [kdel, hn.1]
        rw [e1, hr]
      · have e1 : kdel k ((a, b) :: kins (k, v) r) = (a, b) :: kdel k (kins (k, v) r) := by simp [kdel, hn.1]
        rw [e1, ih hn.2]
  exact this _ (khas_del_same k l)
theorem length_del_le (k : Int) (l : KV) : (kdel k l).length ≤ l.length := List.length_filter_le _ _
theorem length_ins (x : Int × Int) : ∀ l : KV, (kins x l).length = l.length + 1
  | [] => rfl
  | y :: r => by
    unfold kins
    split
    · rfl
    · simp [length_ins x r]

/-- A lock. -/
structure L where
  tot : Int
  free : Int
  held : KV
  wait : List Int
/-- A table. -/
structure T where
  ls : List L
  waits : KV

def isP (p : Int) : Prop := 1 ≤ p ∧ p ≤ 1000000

/-- What is true of each lock. -/
structure LOk (l : L) : Prop where
  t1 : 1 ≤ l.tot
  t16 : l.tot ≤ 16
  f0 : 0 ≤ l.free
  bal : l.free + sum l.held = l.tot
  asc : Asc l.held
  pos : ∀ p ∈ l.held, isP p.1 ∧ 1 ≤ p.2
  nd : l.wait.Nodup
  ps : ∀ p ∈ l.wait, isP p
  wake : 0 < l.free → l.wait = []
/-- What is true of a table. -/
structure TOk (t : T) : Prop where
  n16 : t.ls.length ≤ 16
  ok : ∀ l ∈ t.ls, LOk l
  asc : Asc t.waits
  w1 : ∀ (i : Nat) l p, t.ls[i]? = some l → p ∈ l.wait → (p, (i : Int) + 1) ∈ t.waits
  w2 : ∀ p v, (p, v) ∈ t.waits → ∃ (i : Nat) (l : L), v = (i : Int) + 1 ∧ t.ls[i]? = some l ∧ p ∈ l.wait

theorem kget_of_mem {l : KV} (h : Asc l) {k v : Int} (hm : (k, v) ∈ l) : kget l k = v := by
  induction l with
  | nil => simp at hm
  | cons p r ih =>
    obtain ⟨a, b⟩ := p
    obtain ⟨h1, h2⟩ := List.pairwise_cons.1 h
    rcases List.mem_cons.1 hm with e | hm'
    · cases e; simp [kget]
    · have := h1 _ hm'
      simp only at this
      have hne : a ≠ k := by omega
      simp [kget, hne, ih h2 hm']
theorem khas_of_mem {l : KV} {k v : Int} (hm : (k, v) ∈ l) : khas l k = true := khas_mem.2 ⟨v, hm⟩
theorem LOk.free_le {l : L} (h : LOk l) : l.free ≤ 16 := by
  have h1 := kget_le_sum (k := 0) (l := l.held) fun p hp => by have := (h.pos p hp).2; omega
  have h2 := length_le_sum (l := l.held) fun p hp => (h.pos p hp).2
  have := h.bal; have := h.t16; omega
theorem LOk.held_le {l : L} (h : LOk l) (k : Int) : kget l.held k ≤ 16 := by
  have h1 := kget_le_sum (k := k) (l := l.held) fun p hp => by have := (h.pos p hp).2; omega
  have := h.bal; have := h.t16; have := h.f0; omega
theorem LOk.held_0 {l : L} (h : LOk l) (k : Int) : 0 ≤ kget l.held k := by
  cases hk : khas l.held k with
  | false => rw [kget_zero hk]; omega
  | true => have := (h.pos _ (kget_mem hk)).2; simp only at this; omega
theorem LOk.held_len {l : L} (h : LOk l) : l.held.length ≤ 16 := by
  have h2 := length_le_sum (l := l.held) fun p hp => (h.pos p hp).2
  have := h.bal; have := h.t16; have := h.f0; omega
theorem nodup_lt : ∀ {n : Nat} {l : List Nat}, l.Nodup → (∀ x ∈ l, x < n) → l.length ≤ n
  | 0, l, _, h => by
    cases l with
    | nil => simp
    | cons a r => exact absurd (h a (by simp)) (by omega)
  | n + 1, l, hn, h => by
    have ih := nodup_lt (n := n) (hn.erase n) fun x hx => by
      have h1 := hn.mem_erase_iff.1 hx
      have := h x h1.2
      have := h1.1
      omega
    rw [List.length_erase] at ih
    split at ih <;> omega
theorem nodup_bound {l : List Int} (hn : l.Nodup) (hp : ∀ p ∈ l, isP p) : l.length ≤ 1000000 := by
  have h : (l.map (fun p => p.toNat)).Nodup := by
    rw [List.nodup_iff_pairwise_ne, List.pairwise_map]
    refine List.Pairwise.imp_of_mem ?_ (List.nodup_iff_pairwise_ne.1 hn)
    intro a b ha hb hne e
    have h1 := hp a ha; have h2 := hp b hb
    unfold isP at h1 h2
    omega
  have hsub : ∀ x ∈ l.map (fun p => p.toNat), x ∈ List.range 1000001 := by
    intro x hx
    obtain ⟨p, hp', rfl⟩ := List.mem_map.1 hx
    have h1 := hp p hp'
    unfold isP at h1
    simp; omega
  have hq : ∀ x ∈ l.map (fun p => p.toNat), x ≠ 0 := by
    intro x hx
    obtain ⟨p, hp', rfl⟩ := List.mem_map.1 hx
    have h1 := hp p hp'
    unfold isP at h1
    omega
  have h0 : (0 :: l.map (fun p => p.toNat)).Nodup := List.nodup_cons.2 ⟨fun hm => hq 0 hm rfl, h⟩
  have h3 := nodup_lt h0 (n := 1000001) fun x hx => by
    rcases List.mem_cons.1 hx with rfl | hx
    · omega
    · simpa using hsub x hx
  simp at h3
  omega
theorem LOk.wait_len {l : L} (h : LOk l) : l.wait.length ≤ 1000000 := nodup_bound h.nd h.ps
theorem TOk.waits_ps {t : T} (h : TOk t) : ∀ p ∈ t.waits, isP p.1 ∧ 1 ≤ p.2 ∧ p.2 ≤ 16 := by
  rintro ⟨p, v⟩ hp
  obtain ⟨i, l, hv, hl, hw⟩ := h.w2 p v hp
  have hm := List.mem_of_getElem? hl
  have hi : i < t.ls.length := (List.getElem?_eq_some_iff.1 hl).1
  have := h.n16
  refine ⟨(h.ok l hm).ps p hw, ?_, ?_⟩ <;> simp only <;> omega
theorem TOk.waits_len {t : T} (h : TOk t) : t.waits.length ≤ 1000000 := by
  have := nodup_bound (l := t.waits.map (·.1)) (by
    rw [List.nodup_iff_pairwise_ne, List.pairwise_map]
    exact h.asc.imp fun hlt e => by omega) (fun p hp => by
    obtain ⟨q, hq, rfl⟩ := List.mem_map.1 hp
    exact (h.waits_ps q hq).1)
  simpa using this

/-- A permit is asked for. -/
def hold (t : T) (i : Nat) (l : L) (p : Int) : T × Bool :=
  if l.wait = [] ∧ 0 < l.free then ({ t with ls := t.ls.set i { l with free := l.free - 1, held := kput p (kget l.held p + 1) l.held } }, true)
  else ({ ls := t.ls.set i { l with wait := l.wait ++ [p] }, waits := kput p ((i : Int) + 1) t.waits }, false)
/-- One permit less. -/
def less (k : KV) (p : Int) : KV := if kget k p - 1 = 0 then kdel p k else kput p (kget k p - 1) k
/-- A permit is given back: who has it now. -/
def freed (l : L) (p : Int) : L × Int :=
  match l.wait with
  | [] => ({ l with free := l.free + 1, held := less l.held p }, 0)
  | q :: r => ({ l with held := kput q (kget (less l.held p) q + 1) (less l.held p), wait := r }, q)
def free (t : T) (i : Nat) (l : L) (p : Int) : T × Int := ({ ls := t.ls.set i (freed l p).1, waits := kdel (freed l p).2 t.waits }, (freed l p).2)
/-- A party waits no more. -/
def withdraw (t : T) (i : Nat) (l : L) (p : Int) : T := { ls := t.ls.set i { l with wait := l.wait.erase p }, waits := kdel p t.waits }
def make (t : T) (n : Int) : T := { t with ls := t.ls ++ [⟨n, n, [], []⟩] }
def new : T := ⟨[], []⟩
end Lk
end Go.Proofs.Ytpkldcnkadfhgaa
