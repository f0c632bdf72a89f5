/- What the document's own answers say of signs, names and numerals. -/
import Derived.Test.YtbhknpombmdhiaaDoorRefLeaf
import Derived.Great.BuildSlice
namespace Go.Proofs.YtbhknpombmdhiaaDoor
open Go.RowKit

/-- The signs as cells. -/
def signCells : Array Value := (Lx.signList.map fun l => Value.string ⟨l.toArray⟩).toArray
theorem signCells_at (k : Nat) (h : k < 21) : signCells[k]? = some (.string ⟨(Lx.signList[k]'h).toArray⟩) := by
  unfold signCells
  simp only [List.getElem?_toArray, List.getElem?_map]
  rw [List.getElem?_eq_getElem (show k < Lx.signList.length from h)]; rfl

def signZeros : Array Value := #[.string ⟨#[]⟩, .string ⟨#[]⟩, .string ⟨#[]⟩, .string ⟨#[]⟩, .string ⟨#[]⟩, .string ⟨#[]⟩, .string ⟨#[]⟩, .string ⟨#[]⟩, .string ⟨#[]⟩, .string ⟨#[]⟩, .string ⟨#[]⟩, .string ⟨#[]⟩, .string ⟨#[]⟩, .string ⟨#[]⟩, .string ⟨#[]⟩, .string ⟨#[]⟩, .string ⟨#[]⟩, .string ⟨#[]⟩, .string ⟨#[]⟩, .string ⟨#[]⟩, .string ⟨#[]⟩]
theorem sign_world (w : World) : Hid (∀ k (h : k < 21), ((w.alloc (.cells signZeros 90)).setRow w.heap.size signCells).cell? ⟨w.heap.size, k, none⟩ = some (.string ⟨(Lx.signList[k]'h).toArray⟩)) ∧ Hid (Below w.heap.size w ((w.alloc (.cells signZeros 90)).setRow w.heap.size signCells)) := by
  refine ⟨Lib.hid fun k h => ?_, Lib.hid ?_⟩
  · rw [cell_setRow_same _ _ _ _ _ _ _ (World.alloc_heap_new w _)]; exact signCells_at k h
  · refine ((Below.refl w.heap.size w).alloc (Nat.le_refl _) _).grown (row := some w.heap.size) ⟨rfl, rfl, rfl, by simp, fun k _ hk => setRow_other _ _ _ _ (fun e => hk (by rw [e]))⟩ (by simp) (fun k e => by cases e; omega)

set_option maxRecDepth 100000 in
set_option maxHeartbeats 800000 in
theorem rIsSign_any (s : ByteArray) (w : World) :
    Calls Tryd.prog 57 #[.string s] w fun e w' => e = .returned (.bool (Lx.isSign s.data.toList)) ∧ Below w.heap.size w w' := by
  go_enter Tryd.func57, Tryd.ntmps57
  go_wp2_with (first | (refine wpList_buildTo rfl 90 _ rfl (some 5) rfl signCells (by kernel_rfl) ?_) | (refine wpList_store_row rfl 90 _ _ rfl w.heap.size signCells rfl rfl 90 signZeros (World.alloc_heap_new w _) (by kernel_rfl) (by kernel_rfl) (by kernel_rfl) ?_))
  have hW := sign_world w
  obtain ⟨W, eW⟩ : ∃ W, W = (w.alloc (.cells signZeros 90)).setRow w.heap.size signCells := ⟨_, rfl⟩
  rw [← eW] at hW
  unfold signZeros at eW
  rw [← eW]
  clear eW
  obtain ⟨HC, HB⟩ := hW
  go_loop [4] (fun n => ∃ k : Nat, k ≤ 21 ∧ n = .int .i64 k ∧ Hid (∀ j (h : j < 21), j < k → Lx.signList[j]'h ≠ s.data.toList)) (fun n => 21 - (intOf n).toNat)
  case atStart => exact ⟨0, by omega, rfl, Lib.hid fun j _ h => absurd h (Nat.not_lt_zero _)⟩
  case round =>
    obtain ⟨k, hk, rfl, hQ⟩ := hrel
    by_cases hlt : k < 21
    · have hc := HC.out k hlt
      have hb := same_text (Lx.signList[k]'hlt) s
      by_cases he : Lx.signList[k]'hlt = s.data.toList
      · have hw : Hid (Lx.isSign s.data.toList = true) := Lib.hid (by unfold Lx.isSign; rw [← he]; have hm := List.getElem_mem (l := Lx.signList) hlt; simpa using hm)
        rw [show decide (Lx.signList[k]'hlt = s.data.toList) = true by simpa using he] at hb
        clear he hQ
        go_wp2
        go_ret
        exact ⟨ret_bool hw.out.symm, HB.out⟩
      · have hQ' : Hid (∀ j (h : j < 21), j < k + 1 → Lx.signList[j]'h ≠ s.data.toList) := Lib.hid fun j h hj => by
          by_cases e : j = k
          · subst e; exact he
          · exact hQ.out j h (by omega)
        rw [show decide (Lx.signList[k]'hlt = s.data.toList) = false by simpa using he] at hb
        clear he hQ
        go_wp2
        go_round
        case rel => exact ⟨k + 1, by omega, by go_num, hQ'⟩
        case measure => simp [intOf]; omega
    · have hw : Hid (Lx.isSign s.data.toList = false) := Lib.hid (by
        unfold Lx.isSign
        rw [List.contains_eq_any_beq, List.any_eq_false]
        intro x hx
        obtain ⟨j, hj, rfl⟩ := List.mem_iff_getElem.1 hx
        have := hQ.out j hj (by have : Lx.signList.length = 21 := rfl; omega)
        simpa using fun e => this e.symm)
      clear hQ
      go_wp2
      go_ret
      exact ⟨ret_bool hw.out.symm, HB.out⟩

namespace Lx
theorem isName_bad {s : List UInt8} {i : Nat} (hi : i < s.length) (hl : isLetter s[i] = false) (hd : i = 0 ∨ isDigit s[i] = false) : isName s = false := by
  cases s with
  | nil => rfl
  | cons c l =>
    by_cases h0 : i = 0
    · subst h0
      have hl' : isLetter c = false := hl
      simp [isName, hl']
    · have hd' : isDigit (c :: l)[i] = false := hd.resolve_left h0
      have := run_not_full (p := isLD) hi (by simp [isLD, hl, hd'])
      simp only [isName, this]; simp
theorem isName_ok {s : List UInt8} (h : ∀ i (hi : i < s.length), isLetter s[i] = true ∨ i ≠ 0 ∧ isDigit s[i] = true) : isName s = (decide (1 ≤ s.length) && decide (s.length ≤ 12) && !isWord s) := by
  cases s with
  | nil => rfl
  | cons c l =>
    have h0 : isLetter c = true := (h 0 (by simp)).resolve_right (fun e => e.1 rfl)
    have hr : run isLD (c :: l) = (c :: l).length := run_full fun i hi => by
      rcases h i hi with e | e
      · simp [isLD, e]
      · simp [isLD, e.2]
    simp only [isName, hr, h0]; simp

theorem isNumeral_digit {s : List UInt8} {i : Nat} (hi : i < s.length) (hd : isDigit s[i] = false) : isNumeral s = false := by
  cases s with
  | nil => rfl
  | cons c l =>
    have := run_not_full (p := isDigit) hi hd
    simp only [isNumeral, this]; simp
theorem isNumeral_zero {s : List UInt8} (hi : 1 < s.length) (hd : s[0].toNat = 48) : isNumeral s = false := by
  cases s with
  | nil => rfl
  | cons c l =>
    have h0 : (c.toNat == 48) = true := by simpa using hd
    have hl : l.isEmpty = false := by cases l with
      | nil => simp at hi
      | cons _ _ => rfl
    simp only [isNumeral, h0, hl]; simp
theorem isNumeral_big {s : List UInt8} {k : Nat} (h : 1000000000000 < val 0 (s.take k)) : isNumeral s = false := by
  have e : val 0 s = val (val 0 (s.take k)) (s.drop k) := by rw [← val_app, List.take_append_drop]
  have := val_ge (s.drop k) (val 0 (s.take k))
  cases s with
  | nil => rfl
  | cons c l =>
    have h1 : decide (val 0 (c :: l) ≤ 1000000000000) = false := by simp; omega
    simp only [isNumeral, h1]; simp
theorem isNumeral_ok {s : List UInt8} (h0 : 0 < s.length) (h : ∀ i (hi : i < s.length), isDigit s[i] = true) (hz : 1 < s.length → s[0].toNat ≠ 48) (hv : val 0 s ≤ 1000000000000) : isNumeral s = true := by
  cases s with
  | nil => simp at h0
  | cons c l =>
    have hr := run_full h
    have h1 : decide (val 0 (c :: l) ≤ 1000000000000) = true := by simpa using hv
    have h2 : (!(c.toNat == 48) || l.isEmpty) = true := by
      cases l with
      | nil => simp
      | cons d m => have := hz (by simp); simp at this; simp [this]
    simp only [isNumeral, hr, h1, h2]; simp
end Lx

set_option maxRecDepth 100000 in
set_option maxHeartbeats 1600000 in
theorem rIsName_any (s : ByteArray) (w : World) (hs : s.size ≤ 9223372036854775807) :
    Calls Tryd.prog 26 #[.string s] w fun e w' => e = .returned (.bool (Lx.isName s.data.toList)) ∧ Below w.heap.size w w' := by
  have HL : Hid (s.data.toList.length = s.size) := Lib.hid (list_len s)
  go_enter Tryd.func26, Tryd.ntmps26
  go_wp2
  go_loop [3] (fun n => ∃ k : Nat, k ≤ s.size ∧ n = .int .i64 k ∧ Hid (∀ i (hi : i < s.data.toList.length), i < k → Lx.isLetter s.data.toList[i] = true ∨ i ≠ 0 ∧ Lx.isDigit s.data.toList[i] = true)) (fun n => s.size - (intOf n).toNat)
  case atStart => exact ⟨0, Nat.zero_le _, rfl, Lib.hid fun i _ h => absurd h (Nat.not_lt_zero _)⟩
  case round =>
    obtain ⟨k, hk, rfl, hQ⟩ := hrel
    by_cases hlt : k < s.size
    · have hkl : k < s.data.toList.length := by rw [HL.out]; exact hlt
      have K1 := rdigit_any (s[k]'hlt)
      have K2 := rletter_any (s[k]'hlt)
      have hg : s.data.toList[k]'hkl = s[k]'hlt := rfl
      cases hl : Lx.isLetter (s[k]'hlt)
      · rw [hl] at K2
        have KK2 := Lib.hid K2
        by_cases h0 : k = 0
        · have b0 : ((k : Int) == 0) = true := ibeq_t (by omega)
          have hw : Hid (Lx.isName s.data.toList = false) := Lib.hid (Lx.isName_bad hkl (by rw [hg]; exact hl) (.inl h0))
          clear K1 K2 hl hg hQ hkl h0
          go_wp2_with (first | (go_at_call 50; refine (KK2.out _).mono ?_; rintro e w' ⟨rfl, rfl⟩))
          go_ret
          exact ⟨ret_bool hw.out.symm, Below.refl _ _⟩
        · have b0 : ((k : Int) == 0) = false := ibeq_f (by omega)
          cases hd : Lx.isDigit (s[k]'hlt)
          · have hw : Hid (Lx.isName s.data.toList = false) := Lib.hid (Lx.isName_bad hkl (by rw [hg]; exact hl) (.inr (by rw [hg]; exact hd)))
            rw [hd] at K1
            have KK1 := Lib.hid K1
            clear K1 K2 hl hd hg hQ hkl h0
            go_wp2_with (first | (go_at_call 51; refine (KK1.out _).mono ?_; rintro e w' ⟨rfl, rfl⟩) | (go_at_call 50; refine (KK2.out _).mono ?_; rintro e w' ⟨rfl, rfl⟩))
            go_ret
            exact ⟨ret_bool hw.out.symm, Below.refl _ _⟩
          · have hQ' : Hid (∀ i (hi : i < s.data.toList.length), i < k + 1 → Lx.isLetter s.data.toList[i] = true ∨ i ≠ 0 ∧ Lx.isDigit s.data.toList[i] = true) := Lib.hid fun i hi hik => by
              by_cases e : i = k
              · subst e; exact .inr ⟨h0, by rw [hg]; exact hd⟩
              · exact hQ.out i hi (by omega)
            rw [hd] at K1
            have KK1 := Lib.hid K1
            clear K1 K2 hl hd hg hQ hkl h0
            go_wp2_with (first | (go_at_call 51; refine (KK1.out _).mono ?_; rintro e w' ⟨rfl, rfl⟩) | (go_at_call 50; refine (KK2.out _).mono ?_; rintro e w' ⟨rfl, rfl⟩))
            go_round
            case rel => exact ⟨k + 1, by omega, by go_num, hQ'⟩
            case measure => simp [intOf]; omega
      · have hQ' : Hid (∀ i (hi : i < s.data.toList.length), i < k + 1 → Lx.isLetter s.data.toList[i] = true ∨ i ≠ 0 ∧ Lx.isDigit s.data.toList[i] = true) := Lib.hid fun i hi hik => by
          by_cases e : i = k
          · subst e; exact .inl (by rw [hg]; exact hl)
          · exact hQ.out i hi (by omega)
        rw [hl] at K2
        have KK2 := Lib.hid K2
        clear K1 K2 hl hg hQ hkl
        go_wp2_with (first | (go_at_call 50; refine (KK2.out _).mono ?_; rintro e w' ⟨rfl, rfl⟩))
        go_round
        case rel => exact ⟨k + 1, by omega, by go_num, hQ'⟩
        case measure => simp [intOf]; omega
    · have hN := Lx.isName_ok (s := s.data.toList) fun i hi => hQ.out i hi (by have := HL.out; omega)
      rw [HL.out] at hN
      by_cases h1 : 1 ≤ s.size
      · by_cases h12 : s.size ≤ 12
        · rw [decide_eq_true h1, decide_eq_true h12, Bool.true_and, Bool.true_and] at hN
          have HN := Lib.hid hN
          clear hQ hN
          go_wp2_with (first | (go_at_call 27; refine (rIsWord_any _ _).mono ?_; rintro e w1 ⟨rfl, hb⟩))
          go_ret
          exact ⟨ret_bool HN.out.symm, hb⟩
        · rw [decide_eq_true h1, decide_eq_false h12] at hN
          have HN := Lib.hid hN
          clear hQ hN
          go_wp2
          go_ret
          exact ⟨ret_bool HN.out.symm, Below.refl _ _⟩
      · rw [decide_eq_false h1] at hN
        have HN := Lib.hid hN
        clear hQ hN
        go_wp2
        go_ret
        exact ⟨ret_bool HN.out.symm, Below.refl _ _⟩

end Go.Proofs.YtbhknpombmdhiaaDoor
