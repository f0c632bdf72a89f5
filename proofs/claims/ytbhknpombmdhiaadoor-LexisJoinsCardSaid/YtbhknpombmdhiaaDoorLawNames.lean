/- The statement LexisNames: it returns true for every string. -/
import Derived.Test.YtbhknpombmdhiaaDoorFrameN
import Derived.Test.YtbhknpombmdhiaaDoorLawTokens
namespace Go.Proofs.YtbhknpombmdhiaaDoor
open Go.RowKit

theorem words_ascii : ∀ (j : Nat) (b : UInt8), Lx.words[j]? = some b → b.toNat < 128 := by
  have : (Lx.words.all fun b => decide (b.toNat < 128)) = true := by decide +kernel
  intro j b h
  have hm := List.mem_of_getElem? h
  simpa using List.all_eq_true.1 this b hm
set_option maxRecDepth 100000 in
theorem words_fields : Lib.fields Lx.words = Lx.wordList := by decide +kernel

theorem quiet_add_left {P : Program} {f : FuncId} {args : Array Value} {w : World} {a n : Nat} {v : Value}
    (h : Calls P f args (w.drewN (a + n)) fun e w' => e = .returned v ∧ w.drewN (a + n) = w') :
    Calls P f args (w.drewN (a + n)) fun e w'' => e = .returned v ∧ ∃ m, w'' = w.drewN (a + m) :=
  h.mono fun _ _ ⟨he, hm⟩ => ⟨he, n, hm.symm⟩

set_option maxRecDepth 100000 in
theorem words_any (w : World) (h : Lib.TabIs Tryd.prog w "strings.asciiSpace" .u8 Lib.asciiSpaceTab) :
    Calls Tryd.prog 22 #[] w fun e w' => e = .returned (.slice (some ⟨w.heap.size, 0, none⟩) 46 46) ∧ w' = w.alloc (.cells wordCells 9) := by
  have F := Tryd.strings_Fields ⟨Lx.words.toArray⟩ w (show Lx.words.length < _ by decide) (fun j b hb => words_ascii j b hb) h
  rw [show (⟨Lx.words.toArray⟩ : ByteArray).data.toList = Lx.words from rfl, words_fields] at F
  have FF := Lib.hid F
  clear F
  go_enter Tryd.func22, Tryd.ntmps22
  go_wp2_with fail
  refine FF.out.mono ?_
  rintro e w' ⟨rfl, rfl⟩
  go_wp2
  go_ret
  exact ⟨rfl, rfl⟩

theorem EnvN.below {n : Nat} {w w' : World} (h : EnvN w) (hn : 8 ≤ n) (hb : Below n w w') : Env w' := h.1.below hn hb

theorem word_cells (w : World) (k : Nat) (h : k < 46) : (w.alloc (.cells wordCells 9)).cell? ⟨w.heap.size, k, none⟩ = some (.string ⟨(Lx.wordList[k]'h).toArray⟩) := by
  rw [World.cell?_alloc_at _ _ _ _ rfl]; exact wordCells_at k h

set_option maxRecDepth 100000 in
set_option maxHeartbeats 4000000 in
theorem law_names (s : ByteArray) (w : World) (ws : s.size ≤ maxLen) (henv : EnvN w) :
    Calls Tryd.prog 5 #[.string s] w fun e w' => e = .returned (.bool true) ∧ Below w.heap.size w w' := by
  unfold maxLen at ws
  obtain ⟨m, hm⟩ : ∃ m : Nat, m = min s.size 100 := ⟨_, rfl⟩
  have hmi : min (s.size : Int) 100 = (m : Int) := by omega
  have hm1 : m ≤ s.size := by omega
  have ht : (s.extract 0 m).size ≤ 100 := by simp; omega
  have W1 := Lib.hid (words_any w henv.2)
  have hb1 : Below w.heap.size w (w.alloc (.cells wordCells 9)) := (Below.refl _ _).alloc (Nat.le_refl _) _
  have hb2 : Below w.heap.size w ((w.alloc (.cells wordCells 9)).alloc (.cells wordCells 9)) := hb1.alloc (by simp) _
  have hE2 : Env ((w.alloc (.cells wordCells 9)).alloc (.cells wordCells 9)) := henv.1.below henv.1.2.2 hb2
  have C1 : Hid (∀ k (h : k < 46), ((w.alloc (.cells wordCells 9)).alloc (.cells wordCells 9)).cell? ⟨w.heap.size, k, none⟩ = some (.string ⟨(Lx.wordList[k]'h).toArray⟩)) := Lib.hid fun k h => by
    rw [World.cell?_alloc_past _ _ _ (by simp)]; exact word_cells w k h
  have C2 : Hid (∀ k (h : k < 46), ((w.alloc (.cells wordCells 9)).alloc (.cells wordCells 9)).cell? ⟨w.heap.size + 1, k, none⟩ = some (.string ⟨(Lx.wordList[k]'h).toArray⟩)) := Lib.hid fun k h => by
    have := word_cells (w.alloc (.cells wordCells 9)) k h
    rw [World.size_alloc] at this; exact this
  have HB2 := Lib.hid hb2
  have HE2 := Lib.hid hE2
  have hmi' := Lib.hid hmi
  clear henv hm hb1 hb2 hE2 hmi
  go_enter Tryd.func5, Tryd.ntmps5
  go_wp2_with fail
  refine W1.out.mono ?_
  rintro e w' ⟨rfl, rfl⟩
  go_wp2_with fail
  refine (rWords_any _).mono ?_
  rintro e w' ⟨rfl, rfl⟩
  go_wp2_with fail
  generalize (w.alloc (.cells wordCells 9)).alloc (.cells wordCells 9) = W at *
  go_loopw [5] (fun i wr => ∃ k n : Nat, k ≤ 46 ∧ i = .int .i64 k ∧ wr = W.drewN n) (fun i _ => 46 - (intOf i).toNat)
  case atStart => exact ⟨0, 0, by omega, rfl, rfl⟩
  case round =>
    obtain ⟨k, n, hk, rfl, rfl⟩ := hrel
    by_cases hlt : k < 46
    · have c1 := C1.out k hlt
      have c2 := C2.out k hlt
      obtain ⟨⟨mx, hmx⟩, _, _⟩ := HE2.out
      have hx := List.getElem_mem (l := Lx.wordList) (n := k) hlt
      have h1 := Lx.words_are _ hx
      have h2 := Lx.words_no_names _ hx
      have hs : (⟨(Lx.wordList[k]'hlt).toArray⟩ : ByteArray).size < 4294967281 := by
        have h3 := (show ∀ x ∈ Lx.wordList, x.length < 20 by decide) _ hx
        rw [show (⟨(Lx.wordList[k]'hlt).toArray⟩ : ByteArray).size = (Lx.wordList[k]'hlt).length by simp [ByteArray.size]]; omega
      have KW := fun n => isWord_any ⟨(Lx.wordList[k]'hlt).toArray⟩ (W.drewN n) mx hs hmx
      have KN := fun n => isName_any ⟨(Lx.wordList[k]'hlt).toArray⟩ (W.drewN n) mx hs hmx
      rw [show (⟨(Lx.wordList[k]'hlt).toArray⟩ : ByteArray).data.toList = Lx.wordList[k]'hlt from rfl] at KW KN
      rw [h1] at KW
      rw [h2] at KN
      generalize (⟨(Lx.wordList[k]'hlt).toArray⟩ : ByteArray) = wb at *
      have KKW := Lib.hid KW
      have KKN := Lib.hid KN
      clear hx h1 h2 KW KN hs hmx
      go_wp2_with fail
      go_quiet ((first | (go_at_call 24; exact quiet_add_left (KKW.out _)) | (go_at_call 25; exact quiet_add_left (KKN.out _))))
      go_wp2_with fail
      go_roundw
      case rel => exact ⟨k + 1, _, by omega, by go_num, rfl⟩
      case measure => simp [intOf]; omega
    · have hbn : Below W.heap.size W (W.drewN n) := below_drewN (Below.refl _ W) n
      have HE3 : Hid (Env (W.drewN n)) := Lib.hid (HE2.out.below HE2.out.2.2 hbn)
      have HB3 := Lib.hid (HB2.out.trans (hbn.mono HB2.out.size))
      obtain ⟨⟨mx, hmx⟩, _, _⟩ := HE3.out
      have hmi := hmi'.out
      have N1 := Lib.hid (isName_any (s.extract 0 m) (W.drewN n) mx (by omega) hmx)
      have N2 := Lib.hid (fun w => rIsName_any (s.extract 0 m) w (by omega))
      have I1 := Lib.hid (fun w mx hmx => isWord_any (s.extract 0 m) w mx (by omega) hmx)
      have I2 := Lib.hid (fun w => rIsWord_any (s.extract 0 m) w)
      generalize hts : s.extract 0 m = t at *
      generalize Lx.isName t.data.toList = bn at *
      generalize Lx.isWord t.data.toList = bw at *
      clear hmx
      cases bn
      all_goals
        cases bw
        all_goals
          go_wp2_with fail
          refine N1.out.mono ?_
          rintro e w' ⟨rfl, hw⟩
          obtain rfl : W.drewN n = w' := hw
          go_wp2_with fail
          refine (N2.out _).mono ?_
          rintro e w1 ⟨rfl, hb⟩
          have HB4 := Lib.hid (HB3.out.trans (hb.mono HB3.out.size))
          have HE4 : Hid (Env w1) := Lib.hid (HE3.out.below HE3.out.2.2 hb)
          clear hb
          obtain ⟨⟨my, hmy⟩, _, _⟩ := HE4.out
          have I1' := Lib.hid (I1.out w1 my hmy)
          clear hmy
          go_wp2_with fail
          refine I1'.out.mono ?_
          rintro e w' ⟨rfl, hw⟩
          obtain rfl : w1 = w' := hw
          go_wp2_with fail
          refine (I2.out _).mono ?_
          rintro e w2 ⟨rfl, hb⟩
          have HB5 := Lib.hid (HB4.out.trans (hb.mono HB4.out.size))
          have HE5 : Hid (Env w2) := Lib.hid (HE4.out.below HE4.out.2.2 hb)
          clear hb
          go_wp2_with fail
          refine (awake_any w2 HE5.out).mono ?_
          rintro e w3 ⟨rfl, hb3⟩
          have HB6 := Lib.hid (HB5.out.trans (hb3.mono HB5.out.size))
          clear hb3
          go_wp2
          go_ret
          exact ⟨rfl, HB6.out⟩

end Go.Proofs.YtbhknpombmdhiaaDoor
