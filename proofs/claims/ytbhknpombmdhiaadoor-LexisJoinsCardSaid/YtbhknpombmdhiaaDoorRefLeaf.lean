/- What the small functions of the document's own answers return: letters, digits, runs of them, words. -/
import Derived.Test.YtbhknpombmdhiaaDoorRefPlain
import Derived.Test.YtbhknpombmdhiaaDoorNames
namespace Go.Proofs.YtbhknpombmdhiaaDoor
open Go.RowKit

theorem rletter_any (c : UInt8) (w : World) : Calls Tryd.prog 50 #[B c] w fun e w' => e = .returned (.bool (Lx.isLetter c)) ∧ w = w' := by
  by_cases h1 : 97 ≤ (c.toNat : Int)
  · by_cases h2 : (c.toNat : Int) ≤ 122
    · rw [show Lx.isLetter c = true by simp [Lx.isLetter]; omega]
      go_enter Tryd.func50, Tryd.ntmps50
      go_wp2
      go_ret
      exact ⟨rfl, rfl⟩
    · rw [show Lx.isLetter c = false by simp [Lx.isLetter]; omega]
      go_enter Tryd.func50, Tryd.ntmps50
      go_wp2
      go_ret
      exact ⟨rfl, rfl⟩
  · rw [show Lx.isLetter c = false by simp [Lx.isLetter]; omega]
    go_enter Tryd.func50, Tryd.ntmps50
    go_wp2
    go_ret
    exact ⟨rfl, rfl⟩

theorem rdigit_any (c : UInt8) (w : World) : Calls Tryd.prog 51 #[B c] w fun e w' => e = .returned (.bool (Lx.isDigit c)) ∧ w = w' := by
  by_cases h1 : 48 ≤ (c.toNat : Int)
  · by_cases h2 : (c.toNat : Int) ≤ 57
    · rw [show Lx.isDigit c = true by simp [Lx.isDigit]; omega]
      go_enter Tryd.func51, Tryd.ntmps51
      go_wp2
      go_ret
      exact ⟨rfl, rfl⟩
    · rw [show Lx.isDigit c = false by simp [Lx.isDigit]; omega]
      go_enter Tryd.func51, Tryd.ntmps51
      go_wp2
      go_ret
      exact ⟨rfl, rfl⟩
  · rw [show Lx.isDigit c = false by simp [Lx.isDigit]; omega]
    go_enter Tryd.func51, Tryd.ntmps51
    go_wp2
    go_ret
    exact ⟨rfl, rfl⟩

namespace Lx
theorem run_more {p : UInt8 → Bool} {s : List UInt8} {a k : Nat} (h : run p (s.drop a) = (k - a) + run p (s.drop k)) (ha : a ≤ k) (hk : k < s.length) (hp : p s[k] = true) : run p (s.drop a) = (k + 1 - a) + run p (s.drop (k + 1)) := by
  rw [h, drop_at s k hk]
  simp [run, hp]; omega
theorem run_here {p : UInt8 → Bool} {s : List UInt8} {a k : Nat} (h : run p (s.drop a) = (k - a) + run p (s.drop k)) (ha : a ≤ k) (hk : k < s.length) (hp : p s[k] = false) : a + run p (s.drop a) = k := by
  rw [h, drop_at s k hk]
  simp [run, hp]; omega
theorem run_over {p : UInt8 → Bool} {s : List UInt8} {a k : Nat} (h : run p (s.drop a) = (k - a) + run p (s.drop k)) (ha : a ≤ k) (hk : s.length ≤ k) : a + run p (s.drop a) = k := by
  rw [h, List.drop_of_length_le hk]
  simp [run]; omega
end Lx

set_option maxRecDepth 100000 in
set_option maxHeartbeats 800000 in
theorem rrun_ld (s : ByteArray) (a : Nat) (w : World) (hs : s.size ≤ 9223372036854775807) (ha : a ≤ s.size) :
    Calls Tryd.prog 64 #[.string s, .int .i64 a, .bool true] w fun e w' => e = .returned (.int .i64 (a + Lx.run Lx.isLD (s.data.toList.drop a) : Nat)) ∧ w = w' := by
  have HL : Hid (s.data.toList.length = s.size) := Lib.hid (list_len s)
  go_enter Tryd.func64, Tryd.ntmps64
  go_wp2
  go_loop [1] (fun n => ∃ k : Nat, k ≤ s.size ∧ a ≤ k ∧ n = .int .i64 k ∧ Hid (Lx.run Lx.isLD (s.data.toList.drop a) = (k - a) + Lx.run Lx.isLD (s.data.toList.drop k))) (fun n => s.size - (intOf n).toNat)
  case atStart => exact ⟨a, ha, Nat.le_refl _, rfl, Lib.hid (by omega)⟩
  case round =>
    obtain ⟨k, hk, hak, rfl, hQ⟩ := hrel
    by_cases hlt : k < s.size
    · have hkl : k < s.data.toList.length := by rw [HL.out]; exact hlt
      have K1 := rdigit_any (s[k]'hlt)
      have K2 := rletter_any (s[k]'hlt)
      have hg : s.data.toList[k]'hkl = s[k]'hlt := rfl
      cases hd : Lx.isDigit (s[k]'hlt)
      · cases hl : Lx.isLetter (s[k]'hlt)
        · have HQ := Lib.hid (Lx.run_here hQ.out hak hkl (by rw [hg]; simp [Lx.isLD, hd, hl]))
          rw [hd] at K1
          rw [hl] at K2
          have KK1 := Lib.hid K1
          have KK2 := Lib.hid K2
          clear K1 K2 hd hl hg hQ hkl
          go_wp2_with (first | (go_at_call 51; refine (KK1.out _).mono ?_; rintro e w' ⟨rfl, rfl⟩) | (go_at_call 50; refine (KK2.out _).mono ?_; rintro e w' ⟨rfl, rfl⟩))
          go_ret
          exact ⟨ret_int (by rw [HQ.out]), rfl⟩
        · have HQ := Lib.hid (Lx.run_more hQ.out hak hkl (by rw [hg]; simp [Lx.isLD, hd, hl]))
          rw [hd] at K1
          rw [hl] at K2
          have KK1 := Lib.hid K1
          have KK2 := Lib.hid K2
          clear K1 K2 hd hl hg hQ hkl
          go_wp2_with (first | (go_at_call 51; refine (KK1.out _).mono ?_; rintro e w' ⟨rfl, rfl⟩) | (go_at_call 50; refine (KK2.out _).mono ?_; rintro e w' ⟨rfl, rfl⟩))
          go_round
          case rel => exact ⟨k + 1, by omega, by omega, by go_num, HQ⟩
          case measure => simp [intOf]; omega
      · have HQ := Lib.hid (Lx.run_more hQ.out hak hkl (by rw [hg]; simp [Lx.isLD, hd]))
        rw [hd] at K1
        have KK1 := Lib.hid K1
        clear K1 K2 hd hg hQ hkl
        go_wp2_with (first | (go_at_call 51; refine (KK1.out _).mono ?_; rintro e w' ⟨rfl, rfl⟩))
        go_round
        case rel => exact ⟨k + 1, by omega, by omega, by go_num, HQ⟩
        case measure => simp [intOf]; omega
    · have HQ := Lib.hid (Lx.run_over hQ.out hak (by rw [HL.out]; omega))
      clear hQ
      go_wp2
      go_ret
      exact ⟨ret_int (by have := HQ.out; omega), rfl⟩

set_option maxRecDepth 100000 in
set_option maxHeartbeats 800000 in
theorem rrun_digit (s : ByteArray) (a : Nat) (w : World) (hs : s.size ≤ 9223372036854775807) (ha : a ≤ s.size) :
    Calls Tryd.prog 64 #[.string s, .int .i64 a, .bool false] w fun e w' => e = .returned (.int .i64 (a + Lx.run Lx.isDigit (s.data.toList.drop a) : Nat)) ∧ w = w' := by
  have HL : Hid (s.data.toList.length = s.size) := Lib.hid (list_len s)
  go_enter Tryd.func64, Tryd.ntmps64
  go_wp2
  go_loop [1] (fun n => ∃ k : Nat, k ≤ s.size ∧ a ≤ k ∧ n = .int .i64 k ∧ Hid (Lx.run Lx.isDigit (s.data.toList.drop a) = (k - a) + Lx.run Lx.isDigit (s.data.toList.drop k))) (fun n => s.size - (intOf n).toNat)
  case atStart => exact ⟨a, ha, Nat.le_refl _, rfl, Lib.hid (by omega)⟩
  case round =>
    obtain ⟨k, hk, hak, rfl, hQ⟩ := hrel
    by_cases hlt : k < s.size
    · have hkl : k < s.data.toList.length := by rw [HL.out]; exact hlt
      have K1 := rdigit_any (s[k]'hlt)
      have hg : s.data.toList[k]'hkl = s[k]'hlt := rfl
      cases hd : Lx.isDigit (s[k]'hlt)
      · have HQ := Lib.hid (Lx.run_here hQ.out hak hkl (by rw [hg]; exact hd))
        rw [hd] at K1
        have KK1 := Lib.hid K1
        clear K1 hd hg hQ hkl
        go_wp2_with (first | (go_at_call 51; refine (KK1.out _).mono ?_; rintro e w' ⟨rfl, rfl⟩))
        go_ret
        exact ⟨ret_int (by rw [HQ.out]), rfl⟩
      · have HQ := Lib.hid (Lx.run_more hQ.out hak hkl (by rw [hg]; exact hd))
        rw [hd] at K1
        have KK1 := Lib.hid K1
        clear K1 hd hg hQ hkl
        go_wp2_with (first | (go_at_call 51; refine (KK1.out _).mono ?_; rintro e w' ⟨rfl, rfl⟩))
        go_round
        case rel => exact ⟨k + 1, by omega, by omega, by go_num, HQ⟩
        case measure => simp [intOf]; omega
    · have HQ := Lib.hid (Lx.run_over hQ.out hak (by rw [HL.out]; omega))
      clear hQ
      go_wp2
      go_ret
      exact ⟨ret_int (by have := HQ.out; omega), rfl⟩

/-- The words as cells. -/
def wordCells : Array Value := (Lx.wordList.map fun l => Value.string ⟨l.toArray⟩).toArray

theorem wordCells_at (k : Nat) (h : k < 46) : wordCells[k]? = some (.string ⟨(Lx.wordList[k]'h).toArray⟩) := by
  unfold wordCells
  simp only [List.getElem?_toArray, List.getElem?_map]
  rw [List.getElem?_eq_getElem (show k < Lx.wordList.length from h)]; rfl

set_option maxRecDepth 100000 in
theorem rWords_any (w : World) : Calls Tryd.prog 23 #[] w fun e w' => e = .returned (.slice (some ⟨w.heap.size, 0, none⟩) 46 46) ∧ w' = w.alloc (.cells wordCells 9) := by
  go_enter Tryd.func23, Tryd.ntmps23
  go_wp2
  go_ret
  exact ⟨rfl, rfl⟩

theorem same_text (l : List UInt8) (s : ByteArray) : (l == s.toList) = decide (l = s.data.toList) := by
  rw [ByteArray.toList_eq, Bool.eq_iff_iff]; simp

set_option maxRecDepth 100000 in
set_option maxHeartbeats 800000 in
theorem rIsWord_any (s : ByteArray) (w : World) :
    Calls Tryd.prog 27 #[.string s] w fun e w' => e = .returned (.bool (Lx.isWord s.data.toList)) ∧ Below w.heap.size w w' := by
  go_enter Tryd.func27, Tryd.ntmps27
  go_wp2_with (go_at_call 23; refine (rWords_any _).mono ?_; rintro e w' ⟨rfl, rfl⟩)
  have HC : Hid (∀ k (h : k < 46), (w.alloc (.cells wordCells 9)).cell? ⟨w.heap.size, k, none⟩ = some (.string ⟨(Lx.wordList[k]'h).toArray⟩)) := Lib.hid fun k h => by
    rw [World.cell?_alloc_at _ _ _ _ rfl]; exact wordCells_at k h
  go_loop [4] (fun n => ∃ k : Nat, k ≤ 46 ∧ n = .int .i64 k ∧ Hid (∀ j (h : j < 46), j < k → Lx.wordList[j]'h ≠ s.data.toList)) (fun n => 46 - (intOf n).toNat)
  case atStart => exact ⟨0, by omega, rfl, Lib.hid fun j _ h => absurd h (Nat.not_lt_zero _)⟩
  case round =>
    obtain ⟨k, hk, rfl, hQ⟩ := hrel
    by_cases hlt : k < 46
    · have hc := HC.out k hlt
      have hb := same_text (Lx.wordList[k]'hlt) s
      by_cases he : Lx.wordList[k]'hlt = s.data.toList
      · have hw : Hid (Lx.isWord s.data.toList = true) := Lib.hid (by rw [Lx.isWord_list, ← he]; have hm := List.getElem_mem (l := Lx.wordList) hlt; simpa using hm)
        rw [show decide (Lx.wordList[k]'hlt = s.data.toList) = true by simpa using he] at hb
        clear he hQ
        go_wp2
        go_ret
        exact ⟨ret_bool hw.out.symm, (Below.refl _ _).alloc (Nat.le_refl _) _⟩
      · have hQ' : Hid (∀ j (h : j < 46), j < k + 1 → Lx.wordList[j]'h ≠ s.data.toList) := Lib.hid fun j h hj => by
          by_cases e : j = k
          · subst e; exact he
          · exact hQ.out j h (by omega)
        rw [show decide (Lx.wordList[k]'hlt = s.data.toList) = false by simpa using he] at hb
        clear he hQ
        go_wp2
        go_round
        case rel => exact ⟨k + 1, by omega, by go_num, hQ'⟩
        case measure => simp [intOf]; omega
    · have hw : Hid (Lx.isWord s.data.toList = false) := Lib.hid (by
        rw [Lx.isWord_list, List.contains_eq_any_beq, List.any_eq_false]
        intro x hx
        obtain ⟨j, hj, rfl⟩ := List.mem_iff_getElem.1 hx
        have := hQ.out j hj (by have : Lx.wordList.length = 46 := rfl; omega)
        simpa using fun e => this e.symm)
      clear hQ
      go_wp2
      go_ret
      exact ⟨ret_bool hw.out.symm, (Below.refl _ _).alloc (Nat.le_refl _) _⟩

end Go.Proofs.YtbhknpombmdhiaaDoor
