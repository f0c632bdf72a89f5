/- Plain facts about reading a quote byte by byte. -/
import Derived.Test.YtbhknpombmdhiaaDoorSpec
namespace Go.Proofs.YtbhknpombmdhiaaDoor.Lx

/-- Where k bytes of r have been read, and the text tx has come. -/
def QI (r : List UInt8) (k : Nat) (tx : List UInt8) : Prop := quoteGo r.tail = (quoteGo (r.drop k)).map fun p => (tx ++ p.1, p.2 + (k - 1))

theorem QI.start (r : List UInt8) : QI r 1 [] := by
  unfold QI
  rw [show r.drop 1 = r.tail by simp]
  cases quoteGo r.tail <;> simp

theorem drop_at (r : List UInt8) (k : Nat) (h : k < r.length) : r.drop k = r[k] :: r.drop (k + 1) := List.drop_eq_getElem_cons h

theorem go_close {c : UInt8} (l : List UInt8) (h : c.toNat = 34) : quoteGo (c :: l) = some ([], 1) := by
  cases l <;> (conv => lhs; unfold quoteGo) <;> simp [h]
theorem go_bad {c : UInt8} (l : List UInt8) (h1 : ¬ c.toNat = 34) (h2 : ¬ c.toNat = 92) (h3 : isPrinted c = false) : quoteGo (c :: l) = none := by
  cases l <;> (conv => lhs; unfold quoteGo) <;> simp [h1, h2, h3]
theorem go_plain {c : UInt8} (l : List UInt8) (h1 : ¬ c.toNat = 34) (h2 : ¬ c.toNat = 92) (h3 : isPrinted c = true) : quoteGo (c :: l) = (quoteGo l).map (fun p => (c :: p.1, p.2 + 1)) := by
  cases l <;> (conv => lhs; unfold quoteGo) <;> simp [h1, h2, h3]
theorem go_cut {c : UInt8} (h2 : c.toNat = 92) : quoteGo [c] = none := by simp [quoteGo, h2]
theorem go_bad_esc {c d : UInt8} (l : List UInt8) (h2 : c.toNat = 92) (h3 : needsEsc d = false) : quoteGo (c :: d :: l) = none := by simp [quoteGo, h2, h3]
theorem go_esc {c d : UInt8} (l : List UInt8) (h2 : c.toNat = 92) (h3 : needsEsc d = true) : quoteGo (c :: d :: l) = (quoteGo l).map (fun p => (d :: p.1, p.2 + 2)) := by simp [quoteGo, h2, h3]

theorem QI.over {r : List UInt8} {k : Nat} {tx : List UInt8} (h : QI r k tx) (hk : r.length ≤ k) : quoteGo r.tail = none := by
  unfold QI at h
  rw [h, List.drop_of_length_le hk]; rfl

theorem QI.close {r : List UInt8} {k : Nat} {tx : List UInt8} (h : QI r k tx) (h1 : 1 ≤ k) (hk : k < r.length) (hc : r[k].toNat = 34) : quoteGo r.tail = some (tx, k) := by
  unfold QI at h
  rw [h, drop_at r k hk, go_close _ hc]
  have e : 1 + (k - 1) = k := by omega
  simp [e]

theorem QI.bad {r : List UInt8} {k : Nat} {tx : List UInt8} (h : QI r k tx) (hk : k < r.length) (h1 : ¬ r[k].toNat = 34) (h2 : ¬ r[k].toNat = 92) (h3 : isPrinted r[k] = false) : quoteGo r.tail = none := by
  unfold QI at h
  rw [h, drop_at r k hk, go_bad _ h1 h2 h3]; rfl

theorem QI.plain {r : List UInt8} {k : Nat} {tx : List UInt8} (h : QI r k tx) (h0 : 1 ≤ k) (hk : k < r.length) (h1 : ¬ r[k].toNat = 34) (h2 : ¬ r[k].toNat = 92) (h3 : isPrinted r[k] = true) : QI r (k + 1) (tx ++ [r[k]]) := by
  unfold QI at h ⊢
  rw [h, drop_at r k hk, go_plain _ h1 h2 h3]
  cases quoteGo (r.drop (k + 1)) with
  | none => rfl
  | some p => simp; omega

theorem QI.cut {r : List UInt8} {k : Nat} {tx : List UInt8} (h : QI r k tx) (hk : k + 1 = r.length) (h2 : r[k].toNat = 92) : quoteGo r.tail = none := by
  unfold QI at h
  rw [h, drop_at r k (by omega), List.drop_of_length_le (by omega), go_cut h2]; rfl

theorem QI.bad_esc {r : List UInt8} {k : Nat} {tx : List UInt8} (h : QI r k tx) (hk : k + 1 < r.length) (h2 : r[k].toNat = 92) (h3 : needsEsc r[k + 1] = false) : quoteGo r.tail = none := by
  unfold QI at h
  rw [h, drop_at r k (by omega), drop_at r (k + 1) hk, go_bad_esc _ h2 h3]; rfl

theorem QI.esc {r : List UInt8} {k : Nat} {tx : List UInt8} (h : QI r k tx) (h0 : 1 ≤ k) (hk : k + 1 < r.length) (h2 : r[k].toNat = 92) (h3 : needsEsc r[k + 1] = true) : QI r (k + 2) (tx ++ [r[k + 1]]) := by
  unfold QI at h ⊢
  rw [h, drop_at r k (by omega), drop_at r (k + 1) hk, go_esc _ h2 h3]
  cases quoteGo (r.drop (k + 1 + 1)) with
  | none => rfl
  | some p => simp; omega

theorem needsEsc_printed {c : UInt8} (h : needsEsc c = true) : isPrinted c = true := by
  simp [needsEsc, isPrinted] at h ⊢
  omega

theorem quoteTok_none {r : List UInt8} (h : quoteGo r.tail = none) : quoteTok r = none := by
  cases r with
  | nil => rfl
  | cons c l =>
    have h' : quoteGo l = none := h
    simp [quoteTok, h']

theorem quoteTok_some {r : List UInt8} {c : UInt8} {tx : List UInt8} {k : Nat} (hr : r = c :: r.tail) (hc : c.toNat = 34) (h : quoteGo r.tail = some (tx, k)) : quoteTok r = if tx.length ≤ 60 then some (3, tx, k + 1) else none := by
  rw [hr]
  simp [quoteTok, h, hc]

theorem quoteTok_other {r : List UInt8} {c : UInt8} (hr : r = c :: r.tail) (hc : ¬ c.toNat = 34) : quoteTok r = none := by
  rw [hr]
  simp [quoteTok, hc]

end Go.Proofs.YtbhknpombmdhiaaDoor.Lx
