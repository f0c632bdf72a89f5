/- What Place of the program and Place of the document's own answers return, for every string and position. -/
import Derived.Test.YtbhknpombmdhiaaDoorHelp
namespace Go.Proofs.YtbhknpombmdhiaaDoor
open Go.RowKit

namespace Lx
/-- How many bytes stand behind the last line feed, and one. -/
def col (l : List UInt8) : Nat := l.foldl (fun a c => if c.toNat = 10 then 1 else a + 1) 1
def feeds (l : List UInt8) : Nat := l.countP fun c => c.toNat == 10
theorem col_snoc (l : List UInt8) (c : UInt8) : col (l ++ [c]) = if c.toNat = 10 then 1 else col l + 1 := by simp [col]
theorem feeds_snoc (l : List UInt8) (c : UInt8) : feeds (l ++ [c]) = feeds l + if c.toNat = 10 then 1 else 0 := by
  by_cases h : c.toNat = 10 <;> simp [feeds, h]
theorem feeds_le (l : List UInt8) : feeds l ≤ l.length := List.countP_le_length
theorem col_le (l : List UInt8) : 1 ≤ col l ∧ col l ≤ l.length + 1 := by
  have : ∀ n (l : List UInt8), l.length = n → 1 ≤ col l ∧ col l ≤ l.length + 1 := by
    intro n
    induction n with
    | zero => intro l h; rw [List.eq_nil_of_length_eq_zero h]; simp [col]
    | succ n ih =>
      intro l h
      have hne : l ≠ [] := by intro e; rw [e] at h; simp at h
      obtain ⟨r, c, rfl⟩ : ∃ r c, l = r ++ [c] := ⟨_, _, (List.dropLast_concat_getLast hne).symm⟩
      have hr : r.length = n := by simpa using h
      have := ih r hr
      rw [col_snoc]
      simp only [List.length_append, List.length_singleton]
      split <;> omega
  exact this _ l rfl
theorem count_feeds (l : List UInt8) : Go.Lib.countByte l 10 = feeds l := by
  unfold Go.Lib.countByte feeds List.count
  congr 1
  funext c
  rw [Bool.eq_iff_iff]
  simp only [beq_iff_eq]
  exact ⟨fun h => by rw [h]; rfl, fun h => UInt8.toNat_inj.1 (by rw [h]; rfl)⟩
end Lx

theorem get_bang (s : ByteArray) (k : Nat) (h : k < s.size) : s.data[k]! = s[k] := by
  rw [getElem!_pos s.data k (by simpa using h)]; rfl

theorem last_col (s : ByteArray) : ∀ k : Nat, k ≤ s.size → (k : Int) - Go.Lib.lastIdx s 10 k = (Lx.col (s.data.toList.take k) : Nat)
  | 0, _ => by simp [Go.Lib.lastIdx, Lx.col]
  | k + 1, h => by
    have hk : k < s.size := by omega
    have ih := last_col s k (by omega)
    have htk : s.data.toList.take (k + 1) = s.data.toList.take k ++ [s[k]] := by
      rw [List.take_succ_eq_append_getElem (by rw [list_len]; exact hk)]; rfl
    rw [htk, Lx.col_snoc]
    unfold Go.Lib.lastIdx
    rw [get_bang s k hk]
    by_cases h10 : (s[k].toNat : Int) = 10
    · rw [if_pos h10, if_pos (by omega)]; omega
    · rw [if_neg h10, if_neg (by omega)]; omega

theorem take_size (s : ByteArray) (k : Nat) (h : k ≤ s.size) : (s.extract 0 k).size = k := by simp; omega

set_option maxRecDepth 100000 in
set_option maxHeartbeats 1000000 in
theorem place_any (s : ByteArray) (k : Nat) (w : World) (hs : s.size ≤ 4000) (hk : k ≤ s.size) :
    Calls Tryd.prog 31 #[.string s, .int .i64 k] w fun e w' => e = .returned (.tuple #[.int .i64 (1 + (Lx.feeds (s.data.toList.take k) : Nat)), .int .i64 (Lx.col (s.data.toList.take k) : Nat), .int .i64 0]) ∧ Below w.heap.size w w' := by
  have C := fun w => Tryd.strings_Count_one (s.extract 0 k) 10 w
  have I := fun w => Tryd.strings_LastIndexByte (s.extract 0 k) 10 (by rw [take_size s k hk]; omega) w
  have hl := last_col (s.extract 0 k) k (by rw [take_size s k hk]; omega)
  unfold Go.Lib.lastIndexByte at I
  rw [take_size s k hk] at I
  rw [head_list, List.take_take, Nat.min_self] at hl
  simp only [head_list, Lx.count_feeds] at C
  have hf := Lx.feeds_le (s.data.toList.take k)
  have hc := Lx.col_le (s.data.toList.take k)
  have hlen : (s.data.toList.take k).length = k := by rw [List.length_take, list_len]; omega
  rw [hlen] at hf hc
  generalize Go.Lib.lastIdx (s.extract 0 k) 10 k = li at *
  generalize Lx.feeds (s.data.toList.take k) = nf at *
  generalize Lx.col (s.data.toList.take k) = nc at *
  have CC := Lib.hid C
  have II := Lib.hid I
  have HL := Lib.hid hl
  have b1 : -1 ≤ li := by omega
  have b2 : li < k := by omega
  clear C I hl hlen
  go_enter Tryd.func31, Tryd.ntmps31
  go_wp2_with fail
  refine (CC.out _).mono ?_
  rintro e w' ⟨rfl, hw⟩
  obtain rfl : w = w' := hw.symm
  go_wp2_with fail
  refine (II.out _).mono ?_
  rintro e w' ⟨rfl, hw2⟩
  obtain rfl : w = w' := hw2.symm
  go_wp2
  go_ret3
  exact ⟨by rw [HL.out]; rfl, Below.refl _ _⟩

set_option maxRecDepth 100000 in
set_option maxHeartbeats 1000000 in
theorem refPlace_any (s : ByteArray) (k : Nat) (w : World) (hs : s.size ≤ 4000) (hk : k ≤ s.size) :
    Calls Tryd.prog 32 #[.string s, .int .i64 k] w fun e w' => e = .returned (.tuple #[.int .i64 (1 + (Lx.feeds (s.data.toList.take k) : Nat)), .int .i64 (Lx.col (s.data.toList.take k) : Nat)]) ∧ w = w' := by
  have HP : Hid (∀ j (h : j < s.size), s.data.toList.take (j + 1) = s.data.toList.take j ++ [s[j]]) := Lib.hid fun j h => by
    rw [List.take_succ_eq_append_getElem (by rw [list_len]; exact h)]; rfl
  have HF : Hid (∀ j, Lx.feeds (s.data.toList.take j) ≤ j ∧ 1 ≤ Lx.col (s.data.toList.take j) ∧ Lx.col (s.data.toList.take j) ≤ j + 1) := Lib.hid fun j => by
    have hf := Lx.feeds_le (s.data.toList.take j)
    have hc := Lx.col_le (s.data.toList.take j)
    have hlen : (s.data.toList.take j).length ≤ j := List.length_take_le _ _
    exact ⟨by omega, hc.1, by omega⟩
  go_enter Tryd.func32, Tryd.ntmps32
  go_wp2
  go_loop [6, 7, 8] (fun l c i => ∃ j nl nc : Nat, j ≤ k ∧ i = .int .i64 j ∧ l = .int .i64 nl ∧ c = .int .i64 nc ∧ nl ≤ 1 + j ∧ nc ≤ j + 1 ∧ Hid (nl = 1 + Lx.feeds (s.data.toList.take j) ∧ nc = Lx.col (s.data.toList.take j))) (fun _ _ i => k - (intOf i).toNat)
  case atStart => exact ⟨0, 1, 1, Nat.zero_le _, rfl, rfl, rfl, by omega, by omega, Lib.hid ⟨by simp [Lx.feeds], by simp [Lx.col]⟩⟩
  case round =>
    obtain ⟨j, nl, nc, hj, rfl, rfl, rfl, h1, h2, hQ⟩ := hrel
    by_cases hlt : j < k
    · have hjs : j < s.size := by omega
      have e := HP.out j hjs
      by_cases h10 : (s[j].toNat : Int) = 10
      · have b1 : ((s[j].toNat : Int) == 10) = true := ibeq_t h10
        have hQ' : Hid (nl + 1 = 1 + Lx.feeds (s.data.toList.take (j + 1)) ∧ 1 = Lx.col (s.data.toList.take (j + 1))) := Lib.hid (by
          rw [e, Lx.feeds_snoc, Lx.col_snoc, if_pos (by omega), if_pos (by omega)]
          have := hQ.out.1
          exact ⟨by omega, rfl⟩)
        clear h10 e hQ
        go_wp2
        go_round
        case rel => exact ⟨j + 1, nl + 1, 1, by omega, by go_num, by go_num, by go_num, by omega, by omega, hQ'⟩
        case measure => simp [intOf]; omega
      · have b1 : ((s[j].toNat : Int) == 10) = false := ibeq_f h10
        have hQ' : Hid (nl = 1 + Lx.feeds (s.data.toList.take (j + 1)) ∧ nc + 1 = Lx.col (s.data.toList.take (j + 1))) := Lib.hid (by
          rw [e, Lx.feeds_snoc, Lx.col_snoc, if_neg (by omega), if_neg (by omega)]
          have := hQ.out
          exact ⟨by omega, by omega⟩)
        clear h10 e hQ
        go_wp2
        go_round
        case rel => exact ⟨j + 1, nl, nc + 1, by omega, by go_num, by go_num, by go_num, by omega, by omega, hQ'⟩
        case measure => simp [intOf]; omega
    · have hjk : j = k := by omega
      have hQ' : Hid ((nl : Int) = 1 + (Lx.feeds (s.data.toList.take k) : Nat) ∧ (nc : Int) = (Lx.col (s.data.toList.take k) : Nat)) := Lib.hid (by
        have := hQ.out; rw [hjk] at this; exact ⟨by omega, by omega⟩)
      clear hjk hQ
      go_wp2
      go_ret2
      exact ⟨by rw [← hQ'.out.1, ← hQ'.out.2]; rfl, rfl⟩

end Go.Proofs.YtbhknpombmdhiaaDoor
