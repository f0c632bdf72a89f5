/- What the function Quote returns, for every string: the quote with this text, or the error. -/
import Derived.Test.YtbhknpombmdhiaaDoorBuild
import Derived.Test.YtbhknpombmdhiaaDoorShelf
import Derived.RangeFuncBox
namespace Go.Proofs.YtbhknpombmdhiaaDoor
open Go.RowKit

namespace Lx
def esc (l : List UInt8) : List UInt8 := l.flatMap fun c => if needsEsc c then [92, c] else [c]
/-- The quote with a text; none where it can't be in a quote. -/
def quoted (l : List UInt8) : Option (List UInt8) := if l.length ≤ 60 ∧ l.all isPrinted = true then some ([34] ++ esc l ++ [34]) else none
theorem esc_snoc (l : List UInt8) (c : UInt8) : esc (l ++ [c]) = esc l ++ if needsEsc c then [92, c] else [c] := by simp [esc]
theorem esc_len (l : List UInt8) : (esc l).length ≤ 2 * l.length := by
  induction l with
  | nil => simp [esc]
  | cons c l ih =>
    have e : esc (c :: l) = (if needsEsc c then [92, c] else [c]) ++ esc l := by simp [esc]
    rw [e, List.length_append, List.length_cons]
    split <;> simp <;> omega
end Lx

/-- What Quote hands back. -/
def quoteV : Option (List UInt8) → Value
  | none => .tuple #[.string ⟨#[]⟩, .int .i64 2]
  | some t => .tuple #[.string ⟨t.toArray⟩, .int .i64 0]

theorem bytes_cells (a b : List UInt8) : Lib.byteCells a ++ Lib.byteCells b = Lib.byteCells (a ++ b) := by simp [Lib.byteCells]

set_option maxRecDepth 100000 in
set_option maxHeartbeats 2000000 in
theorem quoted_any (s : ByteArray) (w : World) (hs : s.size < 4294967281) :
    Calls Tryd.prog 28 #[.string s] w fun e w' => e = .returned (quoteV (Lx.quoted s.data.toList)) ∧ Below w.heap.size w w' := by
  by_cases h60 : s.size ≤ 60
  · have g60 : ¬ (60 : Int) < s.size := by omega
    have HP : Hid (∀ k (h : k < s.size), s.data.toList[k]'(by rw [list_len]; exact h) = s[k]) := Lib.hid fun k h => rfl
    have HL : Hid (s.data.toList.length = s.size) := Lib.hid (list_len s)
    go_enter Tryd.func28, Tryd.ntmps28
    go_wp2_with fail
    refine (writeByte_k w.heap.size w.heap.size [] 34 _ (.inl ⟨Nat.le_refl _, _, World.alloc_heap_new w _, World.ownsRowF_of (World.ownsRow_nil _ _ _ _), by simp [Value.ownBlock]⟩) (by simp) (by simp)).mono ?_
    rintro e w1 ⟨rfl, hB1, hb1⟩
    have HB1 := Lib.hid hB1
    have Hb1 := Lib.hid (((Below.refl w.heap.size w).alloc (Nat.le_refl _) _).trans hb1)
    clear hB1 hb1
    go_wp2_with fail
    go_loopw [13] (fun i wr => ∃ k : Nat, k ≤ s.size ∧ i = .int .i64 k ∧ Lib.BuilderAtF 64 5 w.heap.size w.heap.size (.pointer (some ⟨w.heap.size, 0, none⟩)) (Lib.byteCells ([34] ++ Lx.esc (s.data.toList.take k))) wr ∧ Below w.heap.size w wr ∧ Hid ((s.data.toList.take k).all Lx.isPrinted = true)) (fun i _ => s.size - (intOf i).toNat)
    case atStart => exact ⟨0, Nat.zero_le _, rfl, by simpa [Lib.byteCells, Lx.esc] using HB1.out, Hb1.out, Lib.hid (by simp)⟩
    case round =>
      obtain ⟨k, hk, rfl, hB, hb, hall⟩ := hrel
      have hlen := Lx.esc_len (s.data.toList.take k)
      have hlen2 : (s.data.toList.take k).length ≤ k := List.length_take_le _ _
      have HB := Lib.hid hB
      have Hb := Lib.hid hb
      have hz := hb.size
      clear hB hb
      by_cases hlt : k < s.size
      · have hkl : k < s.data.toList.length := by rw [HL.out]; exact hlt
        have htk : s.data.toList.take (k + 1) = s.data.toList.take k ++ [(s[k]'hlt)] := by
          rw [List.take_succ_eq_append_getElem hkl, HP.out k hlt]
        have P := fun w => isPrinted_any (s[k]'hlt) w
        have N := fun w => needsEsc_any (s[k]'hlt) w
        cases hp : Lx.isPrinted (s[k]'hlt)
        · have hq : Lx.quoted s.data.toList = none := by
            unfold Lx.quoted
            rw [if_neg]
            rintro ⟨_, ha⟩
            have := List.all_eq_true.1 ha _ (List.getElem_mem hkl)
            rw [HP.out k hlt, hp] at this; cases this
          rw [hp] at P
          have PP := Lib.hid P
          have HQ := Lib.hid hq
          clear P N hp hq htk hkl
          go_wp2_with (go_at_call 52; refine (PP.out _).mono ?_; rintro e w' ⟨rfl, rfl⟩)
          go_ret2
          exact ⟨by rw [HQ.out]; rfl, Hb.out⟩
        · have hall' : Hid ((s.data.toList.take (k + 1)).all Lx.isPrinted = true) := Lib.hid (by rw [htk, List.all_append, hall.out]; simp [hp])
          have hes := Lx.esc_snoc (s.data.toList.take k) (s[k]'hlt)
          rw [← htk] at hes
          rw [hp] at P
          have PP := Lib.hid P
          cases hn : Lx.needsEsc (s[k]'hlt)
          · rw [hn] at N hes
            have NN := Lib.hid N
            have HES := Lib.hid hes
            clear P N hp hn htk hkl hes hall
            go_wp2_with (first | (go_at_call 52; refine (PP.out _).mono ?_; rintro e w' ⟨rfl, rfl⟩) | (go_at_call 53; refine (NN.out _).mono ?_; rintro e w' ⟨rfl, rfl⟩))
            refine (writeByte_k w.heap.size w.heap.size _ _ _ (.inr HB.out) (by simp [Lib.byteCells]; omega) hz).mono ?_
            rintro e w2 ⟨rfl, hB2, hb2⟩
            have HB2 := Lib.hid hB2
            have Hb2 := Lib.hid (Hb.out.trans hb2)
            clear hB2 hb2
            go_wp2
            go_roundw
            case rel => exact ⟨k + 1, by omega, by go_num, by rw [HES.out]; simpa [Lib.byteCells] using HB2.out, Hb2.out, hall'⟩
            case measure => simp [intOf]; omega
          · rw [hn] at N hes
            have NN := Lib.hid N
            have HES := Lib.hid hes
            clear P N hp hn htk hkl hes hall
            go_wp2_with (first | (go_at_call 52; refine (PP.out _).mono ?_; rintro e w' ⟨rfl, rfl⟩) | (go_at_call 53; refine (NN.out _).mono ?_; rintro e w' ⟨rfl, rfl⟩))
            refine (writeByte_k w.heap.size w.heap.size _ _ _ (.inr HB.out) (by simp [Lib.byteCells]; omega) hz).mono ?_
            rintro e w2 ⟨rfl, hB2, hb2⟩
            have HB2 := Lib.hid hB2
            have Hb2 := Lib.hid (Hb.out.trans hb2)
            clear hB2 hb2
            go_wp2_with fail
            refine (writeByte_k w.heap.size w.heap.size _ _ _ (.inr HB2.out) (by simp [Lib.byteCells]; omega) Hb2.out.size).mono ?_
            rintro e w3 ⟨rfl, hB3, hb3⟩
            have HB3 := Lib.hid hB3
            have Hb3 := Lib.hid (Hb2.out.trans hb3)
            clear hB3 hb3
            go_wp2
            go_roundw
            case rel => exact ⟨k + 1, by omega, by go_num, by rw [HES.out]; simpa [Lib.byteCells] using HB3.out, Hb3.out, hall'⟩
            case measure => simp [intOf]; omega
      · have hks : k = s.size := by omega
        have htl : s.data.toList.take k = s.data.toList := List.take_of_length_le (by rw [HL.out]; omega)
        have hq : Lx.quoted s.data.toList = some ([34] ++ Lx.esc s.data.toList ++ [34]) := by
          unfold Lx.quoted
          rw [if_pos ⟨by rw [HL.out]; exact h60, by rw [← htl]; exact hall.out⟩]
        have HQ := Lib.hid hq
        have HB' : Hid (Lib.BuilderAtF 64 5 w.heap.size w.heap.size (.pointer (some ⟨w.heap.size, 0, none⟩)) (Lib.byteCells ([34] ++ Lx.esc s.data.toList)) wr) := Lib.hid (by have := HB.out; rw [htl] at this; exact this)
        have hl2 := Lx.esc_len s.data.toList
        rw [HL.out] at hl2
        clear hq htl hall HB hks hlen
        go_wp2_with fail
        refine (writeByte_k w.heap.size w.heap.size _ _ _ (.inr HB'.out) (by simp [Lib.byteCells]; omega) hz).mono ?_
        rintro e w2 ⟨rfl, hB2, hb2⟩
        have hBf : Lib.IsBuilderF 64 5 w.heap.size w.heap.size (Lib.byteCells ([34] ++ Lx.esc s.data.toList ++ [34])) w2 := .inr (by simpa [Lib.byteCells] using hB2)
        have HB2 := Lib.hid hBf
        have Hb2 := Lib.hid (Hb.out.trans hb2)
        clear hB2 hb2 hBf
        go_wp2_with fail
        refine (Tryd.Builder_String_k w.heap.size w.heap.size _ w2 HB2.out (by simp)).mono ?_
        rintro e w3 ⟨rfl, _, hb3, _⟩
        have Hb3 := Lib.hid (Hb2.out.trans hb3)
        clear hb3
        go_wp2
        go_ret2
        exact ⟨by rw [HQ.out]; rfl, Hb3.out⟩
  · have g60 : (60 : Int) < s.size := by omega
    rw [show Lx.quoted s.data.toList = none by unfold Lx.quoted; rw [if_neg]; rw [list_len]; omega]
    go_enter Tryd.func28, Tryd.ntmps28
    go_wp2
    go_ret2
    exact ⟨rfl, Below.refl _ _⟩

end Go.Proofs.YtbhknpombmdhiaaDoor
