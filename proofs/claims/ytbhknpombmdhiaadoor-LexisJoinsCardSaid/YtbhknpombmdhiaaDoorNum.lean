/- What isNumeral returns, for every string: is it a numeral that the document allows. -/
import Derived.Test.YtbhknpombmdhiaaDoorNames
import Derived.Lib.AtoiErrMem
namespace Go.Proofs.YtbhknpombmdhiaaDoor
open Go.RowKit

/-- What the walks ask of the library's variables: the longest string of a fast search is a number, and the error of a number out of range is an error. -/
def Env (w : World) : Prop := (∃ m, w.cell? ⟨2, 0, none⟩ = some (.int .i64 m)) ∧ (∃ tp p, w.cell? ⟨4, 0, none⟩ = some (.iface tp p)) ∧ 8 ≤ w.heap.size
theorem Env.below {n : Nat} {w w' : World} (h : Env w) (hn : 8 ≤ n) (hb : Below n w w') : Env w' := by
  obtain ⟨⟨m, hm⟩, ⟨tp, p, hp⟩, hs⟩ := h
  have := hb.size
  exact ⟨⟨m, (hb.cell (p := ⟨2, 0, none⟩) (by show 2 < n; omega)).trans hm⟩, ⟨tp, p, (hb.cell (p := ⟨4, 0, none⟩) (by show 4 < n; omega)).trans hp⟩, by omega⟩

theorem isEmpty_f {s : ByteArray} (h : 0 < s.size) : s.toList.isEmpty = false := by
  rw [ByteArray.toList_eq, list_of_size h]; rfl
theorem toList_ne {s : ByteArray} (h : 0 < s.size) : ¬ s.toList = [] := by
  rw [ByteArray.toList_eq, list_of_size h]; simp
theorem zero_text {s : ByteArray} (h : 0 < s.size) : (s.toList == [48]) = (decide (s[0].toNat = 48) && decide (s.size = 1)) := by
  rw [ByteArray.toList_eq, ← list_len s]
  have e := list_of_size h
  revert e
  generalize s.data.toList = l
  intro e
  rw [e]
  cases ht : l.tail with
  | nil =>
    rw [Bool.eq_iff_iff]
    simp only [List.length_singleton, decide_true, Bool.and_true, beq_iff_eq, decide_eq_true_eq, List.cons.injEq, and_true]
    constructor
    · intro h1; rw [h1]; rfl
    · intro h1; exact UInt8.toNat_inj.1 (by rw [h1]; rfl)
  | cons a r => simp

theorem atoi_tail (s : ByteArray) (w : World) (hs : s.size < 4294967281) (h0 : 0 < s.size) (hr : Lx.run Lx.isDigit s.data.toList = s.size) (henv : Env w) :
    (Lx.val 0 s.data.toList < 9223372036854775808 ∧ Calls Tryd.prog 77 #[.string s] w fun e w' => e = .returned (.tuple #[.int .i64 (Lx.val 0 s.data.toList : Nat), .nilIface]) ∧ Below w.heap.size w w') ∨
    (9223372036854775808 ≤ Lx.val 0 s.data.toList ∧ Calls Tryd.prog 77 #[.string s] w fun e w' => (∃ N v, e = .returned (.tuple #[.int .i64 v, .iface 115 (.pointer (some ⟨N, 0, none⟩))])) ∧ Below w.heap.size w w') := by
  obtain ⟨_, ⟨tp, p, hp⟩, _⟩ := henv
  have e := list_of_size h0
  have hr' : Lx.run Lx.isDigit s.data.toList = s.data.toList.length := by rw [hr, list_len]
  rw [e] at hr'
  rcases Lx.atoi_digits s[0] s.data.toList.tail hr' with ⟨h1, h2⟩ | ⟨h1, h2⟩
  · rw [← e] at h1 h2
    refine .inl ⟨h1, (Tryd.strconv_Atoi_ok s (by omega) _ h2 w).mono ?_⟩
    rintro e w' ⟨rfl, rfl | ⟨t, rfl⟩⟩
    · exact ⟨rfl, Below.refl _ _⟩
    · exact ⟨rfl, Lib.bytesWorld_below _ _ _⟩
  · rw [← e] at h1 h2
    refine .inr ⟨h1, (Tryd.strconv_Atoi_range s (by omega) h2 _ w hp (.inr ⟨tp, p, rfl⟩)).mono ?_⟩
    rintro e w' ⟨N, rfl, _, _, hb⟩
    exact ⟨⟨N, _, rfl⟩, hb⟩

theorem ret_bool {a b : Bool} (h : a = b) : Ending.returned (.bool a) = .returned (.bool b) := by rw [h]

set_option maxRecDepth 100000 in
set_option maxHeartbeats 800000 in
theorem isNumeral_any (s : ByteArray) (w : World) (hs : s.size < 4294967281) (henv : Env w) :
    Calls Tryd.prog 66 #[.string s] w fun e w' => e = .returned (.bool (Lx.isNumeral s.data.toList)) ∧ Below w.heap.size w w' := by
  by_cases h0 : 0 < s.size
  · have e0 := isEmpty_f h0
    have e1 := toList_ne h0
    have ez := zero_text h0
    have hl := list_of_size h0
    have hlen := list_len s
    have R := run_isDigit s w (by omega)
    have hle := Lx.run_le Lx.isDigit s.data.toList
    rw [hlen] at hle
    have hN : Lx.isNumeral s.data.toList = ((Lx.run Lx.isDigit s.data.toList == s.size) && (!(s[0].toNat == 48) || decide (s.size = 1)) && decide (Lx.val 0 s.data.toList ≤ 1000000000000)) := by
      have : ∀ l : List UInt8, l = s[0] :: l.tail → l.length = s.size → Lx.isNumeral l = ((Lx.run Lx.isDigit l == s.size) && (!(s[0].toNat == 48) || decide (s.size = 1)) && decide (Lx.val 0 l ≤ 1000000000000)) := fun l e e2 => by
        rw [e] at e2 ⊢
        have e3 : l.tail.isEmpty = decide (s.size = 1) := by
          rw [← e2, Bool.eq_iff_iff]
          cases l.tail <;> simp
        simp only [Lx.isNumeral, e2, e3]
      exact this _ hl hlen
    by_cases hrn : Lx.run Lx.isDigit s.data.toList = s.size
    · rw [hN, show (Lx.run Lx.isDigit s.data.toList == s.size) = true by simp [hrn], Bool.true_and]
      have A := atoi_tail s w hs h0 hrn henv
      rw [hrn] at R
      have RR := Lib.hid R
      clear R hl hlen hle hN hrn
      by_cases hz : s[0].toNat = 48
      · have gz : ((s[0].toNat : Int) == 48) = true := ibeq_t (by omega)
        by_cases h1 : s.size = 1
        · rw [show (!(s[0].toNat == 48) || decide (s.size = 1)) = true by simp [h1], Bool.true_and]
          have ez' : (s.toList == [48]) = true := by rw [ez]; simp [hz, h1]
          clear ez hz h1
          rcases A with ⟨hv, A⟩ | ⟨hv, A⟩
          · have AA := Lib.hid A
            have hv' := Lib.hid hv
            clear A hv
            generalize Lx.val 0 s.data.toList = nv at *
            go_enter Tryd.func66, Tryd.ntmps66
            go_wp2_with (first | (go_at_call 48; refine RR.out.mono ?_; rintro e w' ⟨rfl, rfl⟩) | (go_at_call 77; refine AA.out.mono ?_; rintro e w1 ⟨rfl, hb⟩))
            go_ret
            exact ⟨ret_bool (decide_eq_decide.2 (by omega)), hb⟩
          · have AA := Lib.hid A
            rw [show decide (Lx.val 0 s.data.toList ≤ 1000000000000) = false by simp; omega]
            clear A hv
            go_enter Tryd.func66, Tryd.ntmps66
            go_wp2_with (first | (go_at_call 48; refine RR.out.mono ?_; rintro e w' ⟨rfl, rfl⟩) | (go_at_call 77; refine AA.out.mono ?_; rintro e w1 ⟨⟨N, v, rfl⟩, hb⟩))
            go_ret
            exact ⟨rfl, hb⟩
        · rw [show (!(s[0].toNat == 48) || decide (s.size = 1)) = false by simp [hz, h1], Bool.false_and]
          have ez' : (s.toList == [48]) = false := by rw [ez]; simp [h1]
          clear ez hz h1 A
          go_enter Tryd.func66, Tryd.ntmps66
          go_wp2_with (first | (go_at_call 48; refine RR.out.mono ?_; rintro e w' ⟨rfl, rfl⟩))
          go_ret
          exact ⟨rfl, Below.refl _ _⟩
      · have gz : ((s[0].toNat : Int) == 48) = false := ibeq_f (by omega)
        rw [show (!(s[0].toNat == 48) || decide (s.size = 1)) = true by simp [hz], Bool.true_and]
        clear ez hz
        rcases A with ⟨hv, A⟩ | ⟨hv, A⟩
        · have AA := Lib.hid A
          have hv' := Lib.hid hv
          clear A hv
          generalize Lx.val 0 s.data.toList = nv at *
          go_enter Tryd.func66, Tryd.ntmps66
          go_wp2_with (first | (go_at_call 48; refine RR.out.mono ?_; rintro e w' ⟨rfl, rfl⟩) | (go_at_call 77; refine AA.out.mono ?_; rintro e w1 ⟨rfl, hb⟩))
          go_ret
          exact ⟨ret_bool (decide_eq_decide.2 (by omega)), hb⟩
        · have AA := Lib.hid A
          rw [show decide (Lx.val 0 s.data.toList ≤ 1000000000000) = false by simp; omega]
          clear A hv
          go_enter Tryd.func66, Tryd.ntmps66
          go_wp2_with (first | (go_at_call 48; refine RR.out.mono ?_; rintro e w' ⟨rfl, rfl⟩) | (go_at_call 77; refine AA.out.mono ?_; rintro e w1 ⟨⟨N, v, rfl⟩, hb⟩))
          go_ret
          exact ⟨rfl, hb⟩
    · rw [hN, show (Lx.run Lx.isDigit s.data.toList == s.size) = false by simp [hrn], Bool.false_and, Bool.false_and]
      have RR := Lib.hid R
      have hlt : Lx.run Lx.isDigit s.data.toList < s.size := by omega
      clear R hl hlen hle hN hrn ez
      generalize Lx.run Lx.isDigit s.data.toList = nn at *
      go_enter Tryd.func66, Tryd.ntmps66
      go_wp2_with (first | (go_at_call 48; refine RR.out.mono ?_; rintro e w' ⟨rfl, rfl⟩))
      go_ret
      exact ⟨rfl, Below.refl _ _⟩
  · rw [show Lx.isNumeral s.data.toList = false by rw [list_nil h0]; rfl]
    have e0 : s.toList = [] := by rw [ByteArray.toList_eq, list_nil h0]
    go_enter Tryd.func66, Tryd.ntmps66
    go_wp2
    go_ret
    exact ⟨rfl, Below.refl _ _⟩

end Go.Proofs.YtbhknpombmdhiaaDoor
