/- Which faults are valid. -/
import Derived.Test.YtcegmdlmnibheaaFind
namespace Go.Proofs.Ytcegmdlmnibheaa
set_option linter.unusedVariables false
set_option linter.unusedSimpArgs false
open Go.RowKit

theorem Tr.okB_yes {c : UInt8} (h1 : 32 ≤ (c.toNat : Int)) (h2 : (c.toNat : Int) ≤ 126) : Tr.okB c = true := by simp [Tr.okB]; omega
theorem Tr.okB_no {c : UInt8} (h : (c.toNat : Int) < 32 ∨ 126 < (c.toNat : Int)) : Tr.okB c = false := by simp [Tr.okB]; omega
/-- Bytes from 32 to 126. -/
def charsB (l : List UInt8) : Bool := l.all Tr.okB

theorem chars_yes {s : ByteArray} (h : ∀ i (hi : i < s.size), Tr.okB s[i] = true) : charsB s.data.toList = true := by
  unfold charsB
  rw [List.all_eq_true]
  intro c hc
  obtain ⟨i, hi, rfl⟩ := List.mem_iff_getElem.1 hc
  exact h i (by simpa using hi)
theorem chars_no {s : ByteArray} {k : Nat} (hk : k < s.size) (h : Tr.okB s[k] = false) : charsB s.data.toList = false := by
  unfold charsB
  rw [List.all_eq_false]
  exact ⟨s[k], List.mem_iff_getElem.2 ⟨k, by simpa using hk, rfl⟩, by simp [h]⟩

theorem ret_bool {a b : Bool} (h : a = b) : Ending.returned (.bool a) = .returned (.bool b) := by rw [h]
def upTo (s : ByteArray) (k : Nat) : Prop := ∀ i (hi : i < s.size), i < k → Tr.okB s[i] = true
theorem upTo_zero (s : ByteArray) : upTo s 0 := fun _ _ h => absurd h (Nat.not_lt_zero _)
theorem upTo_succ {s : ByteArray} {k : Nat} (h : upTo s k) (hk : k < s.size) (hc : Tr.okB s[k] = true) : upTo s (k + 1) := fun i hi hik => by
  by_cases e : i = k
  · subst e; exact hc
  · exact h i hi (by omega)
theorem upTo_all {s : ByteArray} {k : Nat} (h : upTo s k) (hk : s.size ≤ k) : charsB s.data.toList = true := chars_yes fun i hi => h i hi (by omega)

set_option maxHeartbeats 400000 in
theorem isText_any (s : ByteArray) (w : World) (hs : s.size ≤ 9223372036854775807) : Calls Try.prog 94 #[.string s] w fun e w' => e = .returned (.bool (Tr.textB s.data.toList)) ∧ w = w' := by
  by_cases hl : 60 < s.size
  · rw [show Tr.textB s.data.toList = false from by simp [Tr.textB, charsB]; omega]
    go_enter Try.func94, Try.ntmps94
    go_wp2
    go_ret
    exact ⟨rfl, rfl⟩
  · have hT : Tr.textB s.data.toList = charsB s.data.toList := by simp [Tr.textB, charsB]; omega
    rw [hT]
    clear hT
    go_enter Try.func94, Try.ntmps94
    go_wp2
    go_loop [9] (fun n => ∃ k : Nat, k ≤ s.size ∧ n = .int .i64 k ∧ upTo s k) (fun n => s.size - (intOf n).toNat)
    case atStart => exact ⟨0, Nat.zero_le _, rfl, upTo_zero s⟩
    case round =>
      obtain ⟨k, hk, rfl, hall⟩ := hrel
      by_cases hlt : k < s.size
      · by_cases h1 : (s[k].toNat : Int) < 32
        · have HN := Lib.hid (chars_no hlt (Tr.okB_no (.inl h1)))
          go_wp2
          go_ret
          exact ⟨ret_bool HN.out.symm, rfl⟩
        · by_cases h2 : 126 < (s[k].toNat : Int)
          · have HN := Lib.hid (chars_no hlt (Tr.okB_no (.inr h2)))
            go_wp2
            go_ret
            exact ⟨ret_bool (by rw [HN.out]), rfl⟩
          · have HN := upTo_succ hall hlt (Tr.okB_yes (by omega) (by omega))
            go_wp2
            go_round
            case rel => exact ⟨k + 1, by omega, by go_num, HN⟩
            case measure => simp [intOf]; omega
      · have HN := Lib.hid (upTo_all hall (by omega))
        go_wp2
        go_ret
        exact ⟨ret_bool HN.out.symm, rfl⟩


def flV (f : Tr.F) : Value := .agg #[.int .i64 f.k, .string f.s]
theorem toList_nil (s : ByteArray) : (s.toList == []) = s.toList.isEmpty := by cases s.toList <;> rfl
set_option maxHeartbeats 1000000 in
theorem valid_any (f : Tr.F) (w : World) (hs : f.s.size ≤ 9223372036854775807) : Calls Try.prog 56 #[flV f] w (still w (.bool (Tr.validB f))) := by
  obtain ⟨k, s⟩ := f
  unfold flV still Tr.validB
  simp only at hs ⊢
  by_cases h0 : k = 0
  · subst h0
    rw [if_pos (.inl rfl), toList_nil]
    go_enter Try.func56, Try.ntmps56
    go_wp2
    go_ret
    exact ⟨rfl, one _ _⟩
  by_cases h2 : k = 2
  · subst h2
    rw [if_pos (.inr rfl), toList_nil]
    go_enter Try.func56, Try.ntmps56
    go_wp2
    go_ret
    exact ⟨rfl, one _ _⟩
  by_cases h1 : k = 1
  · subst h1
    rw [if_neg (by simp), if_pos rfl]
    go_enter Try.func56, Try.ntmps56
    go_wp2_with (go_at_call 94; refine (isText_any _ _ hs).mono ?_; rintro e w' ⟨rfl, rfl⟩)
    go_ret
    exact ⟨rfl, one _ _⟩
  · rw [if_neg (by omega), if_neg h1]
    go_enter Try.func56, Try.ntmps56
    go_wp2
    go_ret
    exact ⟨rfl, one _ _⟩
/-- A valid fault that is no throw has no text. -/
theorem valid_plain {f : Tr.F} (h : Tr.validB f = true) (h1 : f.k ≠ 1) : (f.k = 0 ∨ f.k = 2) ∧ f.s = ⟨#[]⟩ := by
  unfold Tr.validB at h
  split at h
  · rename_i hk
    refine ⟨hk, ?_⟩
    simp at h
    obtain ⟨k, ⟨⟨l⟩⟩⟩ := f
    simp only at h ⊢
    have : (ByteArray.mk ⟨l⟩).toList = l := by simp [ByteArray.toList_eq]
    simp_all
  · simp at h

section
variable {w : World} {own : Own} {tb : Nat} {L : Lay} {t : Tr.T}
theorem setS_same {j : Nat} {y : Tr.Sc} (hy : t.ss[j]? = some y) : Tr.setS t j y = t := by
  obtain ⟨ts, ss⟩ := t
  simp only [Tr.setS] at hy ⊢
  congr 1
  apply List.ext_getElem?
  intro k
  by_cases e : j = k
  · subst e; have := (List.getElem?_eq_some_iff.1 hy).1; rw [List.getElem?_set_self this, hy]
  · rw [List.getElem?_set_ne e]
set_option maxHeartbeats 1000000 in
set_option maxRecDepth 100000 in
theorem take_any (h : Rep w own tb L t) {j : Nat} {y : Tr.Sc} (hy : t.ss[j]? = some y) (f : Tr.F) :
    Calls Try.prog 57 #[scP L (some j), flV f] w fun e w' => e = .returned (.bool (Tr.takes y)) ∧ Rep w' own tb L (Tr.setS t j (Tr.taken y f)) ∧ Fr (fun k => k = L.sc j) w w' := by
  have hB := (h.sc j y hy).blk
  have c2 := hB.cell 2 _ rfl
  have hlt := hB.lt
  have hz := hB.fz 2
  have hz3 := hB.fz 3
  have c3 := hB.cell 3 _ rfl
  have HR := Lib.hid h
  have HB := Lib.hid hB
  have HY := Lib.hid hy
  unfold flV scP
  by_cases h0 : y.flt.k = 0
  · rw [h0] at c2
    have e1 : Tr.takes y = true := by simp [Tr.takes, h0]
    have e2 : Tr.taken y f = { y with flt := f } := by simp [Tr.taken, h0]
    rw [e1, e2]
    clear h hB hy e1 e2 h0
    go_enter Try.func57, Try.ntmps57
    go_wp2
    go_ret
    refine ⟨rfl, HR.out.turnS HY.out ?_ ?_ rfl rfl, ?_⟩
    · exact (Fr.set (Fr.set (Fr.refl (fun k => k = L.sc j) _) (.inl rfl) _ _) (.inl rfl) _ _).alloc _
    · exact ((HB.out.set (o := 2) (by simp [scC]) _).set (o := 3) (by simp [scC]) _).alloc _
    · exact (Fr.set (Fr.set (Fr.refl (fun k => k = L.sc j) _) (.inl rfl) _ _) (.inl rfl) _ _).alloc _
  · have e1 : Tr.takes y = false := by simp [Tr.takes, h0]
    have e2 : Tr.taken y f = y := by simp [Tr.taken, h0]
    rw [e1, e2, setS_same hy]
    have h0' : (y.flt.k != 0) = true := by simpa using h0
    clear h hB hy e1 e2
    go_enter Try.func57, Try.ntmps57
    go_wp2
    go_ret
    exact ⟨rfl, HR.out.below (one _ _), (Fr.refl _ _).alloc _⟩
def efV (e : Tr.E) : Value := .agg #[.int .i64 e.k, .int .i64 e.n, .int .i64 e.m, .int .i64 e.f.k, .string e.f.s]
set_option maxRecDepth 100000 in
theorem cancelled_any (h : Rep w own tb L t) {j : Nat} {y : Tr.Sc} (hy : t.ss[j]? = some y) :
    Calls Try.prog 58 #[scP L (some j)] w (still w (efV (Tr.eScope j))) := by
  have c0 := (h.sc j y hy).blk.cell 0 _ rfl
  have hlt := (h.sc j y hy).blk.lt
  unfold scP still
  clear h hy
  go_enter Try.func58, Try.ntmps58
  go_wp2
  refine bodyPost_ret (v := efV (Tr.eScope j)) (by simp [results, Try.results58, go_sem, efV, Tr.eScope, Tr.f0]) rfl ⟨rfl, one _ _⟩
end
end Go.Proofs.Ytcegmdlmnibheaa
