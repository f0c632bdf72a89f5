/- The statement LexisStands: it returns true for every string. -/
import Derived.Test.YtbhknpombmdhiaaDoorLawTokens
import Derived.Test.YtbhknpombmdhiaaDoorStandPlain
namespace Go.Proofs.YtbhknpombmdhiaaDoor
open Go.RowKit

namespace Lx
theorem esc_ge (l : List UInt8) : l.length ≤ (esc l).length := by
  induction l with
  | nil => simp
  | cons c l ih =>
    have e : esc (c :: l) = (if needsEsc c then [92, c] else [c]) ++ esc l := by simp [esc]
    rw [e, List.length_append, List.length_cons]
    split <;> simp <;> omega
theorem SJ.round {s : List UInt8} {i a : Nat} (h : SJ s i a) (hi : i < (tokens s).1.length) :
    ∃ k t q n, (tokens s).1[i] = (k, t, q) ∧ a ≤ q ∧ q + n ≤ s.length ∧ skipB false (s.drop a) = q - a ∧ isTok k t = true ∧ txt k t = (s.drop q).take n ∧ (k = 6 ↔ ¬ i + 1 < (tokens s).1.length) ∧
      (i + 1 < (tokens s).1.length → q < s.length ∧ SJ s (i + 1) (q + n)) := by
  have hge := skipAt_ge s a
  rcases h.step with ⟨hlt, k, t, n, hi2, hx, ht, hs⟩ | ⟨he, hi2, hx⟩
  · obtain ⟨e1, e2, e3⟩ := tokenAt_txt ht
    have hp := tokenAt_pos ht
    rw [List.length_drop] at hp
    exact ⟨k, t, skipAt s a, n, hx, hge, by omega, skip_from, e2, e1, ⟨fun h => absurd h e3, fun h => absurd hi2 h⟩, fun _ => ⟨hlt, hs⟩⟩
  · exact ⟨6, [], s.length, 0, hx, by omega, by omega, by rw [skip_from, he], rfl, by simp [txt], ⟨fun _ => by omega, fun _ => rfl⟩, fun h => by omega⟩
end Lx

set_option maxRecDepth 100000 in
set_option maxHeartbeats 1000000 in
theorem rIsToken_any (k : Int) (t : ByteArray) (p : Int) (w : World) (ht : t.size ≤ 9223372036854775807) :
    Calls Tryd.prog 33 #[.agg #[.int .i64 k, .string t, .int .i64 p]] w fun e w' => e = .returned (.bool (Lx.isTok k t.data.toList)) ∧ Below w.heap.size w w' := by
  by_cases h1 : k = 1
  · subst h1
    rw [show Lx.isTok 1 t.data.toList = Lx.isName t.data.toList from rfl]
    go_enter Tryd.func33, Tryd.ntmps33
    go_wp2_with (go_at_call 26; refine (rIsName_any t _ ht).mono ?_; rintro e w1 ⟨rfl, hb⟩)
    go_ret
    exact ⟨rfl, new1_then' hb⟩
  by_cases h2 : k = 2
  · subst h2
    rw [show Lx.isTok 2 t.data.toList = Lx.isNumeral t.data.toList from rfl]
    clear h1
    go_enter Tryd.func33, Tryd.ntmps33
    go_wp2_with (go_at_call 56; refine (rIsNumeral_any t _ ht).mono ?_; rintro e w1 ⟨rfl, rfl⟩)
    go_ret
    exact ⟨rfl, (Below.refl _ _).alloc (Nat.le_refl _) _⟩
  by_cases h3 : k = 3
  · subst h3
    rw [show Lx.isTok 3 t.data.toList = Lx.isText t.data.toList from rfl]
    clear h1 h2
    go_enter Tryd.func33, Tryd.ntmps33
    go_wp2_with (go_at_call 29; refine (refIsText_any t _ ht).mono ?_; rintro e w1 ⟨rfl, rfl⟩)
    go_ret
    exact ⟨rfl, (Below.refl _ _).alloc (Nat.le_refl _) _⟩
  by_cases h4 : k = 4
  · subst h4
    rw [show Lx.isTok 4 t.data.toList = Lx.isSign t.data.toList from rfl]
    clear h1 h2 h3
    go_enter Tryd.func33, Tryd.ntmps33
    go_wp2_with (go_at_call 57; refine (rIsSign_any t _).mono ?_; rintro e w1 ⟨rfl, hb⟩)
    go_ret
    exact ⟨rfl, new1_then' hb⟩
  by_cases h5 : k = 5
  · subst h5
    rw [show Lx.isTok 5 t.data.toList = Lx.isWord t.data.toList from rfl]
    clear h1 h2 h3 h4
    go_enter Tryd.func33, Tryd.ntmps33
    go_wp2_with (go_at_call 27; refine (rIsWord_any t _).mono ?_; rintro e w1 ⟨rfl, hb⟩)
    go_ret
    exact ⟨rfl, new1_then' hb⟩
  have b1 : (k == 1) = false := ibeq_f h1
  have b2 : (k == 2) = false := ibeq_f h2
  have b3 : (k == 3) = false := ibeq_f h3
  have b4 : (k == 4) = false := ibeq_f h4
  have b5 : (k == 5) = false := ibeq_f h5
  have hT : Lx.isTok k t.data.toList = (decide (k = 6) && t.data.toList.isEmpty) := by
    unfold Lx.isTok; rw [if_neg h1, if_neg h2, if_neg h3, if_neg h4, if_neg h5]
  clear h1 h2 h3 h4 h5
  by_cases h6 : k = 6
  · have b6 : (k == 6) = true := ibeq_t h6
    rw [decide_eq_true h6, Bool.true_and] at hT
    have HT := Lib.hid hT
    clear h6 hT
    by_cases h0 : 0 < t.size
    · have e0 := isEmpty_f h0
      have e1 := toList_ne h0
      have HE : Hid (t.data.toList.isEmpty = false) := Lib.hid (by rw [ByteArray.toList_eq] at e0; exact e0)
      go_enter Tryd.func33, Tryd.ntmps33
      go_wp2
      go_ret
      exact ⟨ret_bool (by rw [HT.out, HE.out]), (Below.refl _ _).alloc (Nat.le_refl _) _⟩
    · have e0 : t.toList = [] := by rw [ByteArray.toList_eq, list_nil h0]
      have HE : Hid (t.data.toList.isEmpty = true) := Lib.hid (by rw [list_nil h0]; rfl)
      go_enter Tryd.func33, Tryd.ntmps33
      go_wp2
      go_ret
      exact ⟨ret_bool (by rw [HT.out, HE.out]), (Below.refl _ _).alloc (Nat.le_refl _) _⟩
  · have b6 : (k == 6) = false := ibeq_f h6
    rw [decide_eq_false h6, Bool.false_and] at hT
    have HT := Lib.hid hT
    clear h6 hT
    go_enter Tryd.func33, Tryd.ntmps33
    go_wp2
    go_ret
    exact ⟨ret_bool (by rw [HT.out]), (Below.refl _ _).alloc (Nat.le_refl _) _⟩

theorem bytes_len (l : List UInt8) : (⟨l.toArray⟩ : ByteArray).size = l.length := by simp [ByteArray.size]

theorem stand_byte (b : Bool) (c : UInt8) (h : b = false → c.toNat = 35 ∨ Lx.isBlank c = true) :
    (((c.toNat : Int) == 35) = true ∧ (c.toNat == 35 || b && !(c.toNat == 10)) = true) ∨
    (b = false ∧ ((c.toNat : Int) == 35) = false ∧ ((((c.toNat : Int) == 9) = true ∧ ((c.toNat : Int) != 9) = false) ∨ (((c.toNat : Int) == 9) = false ∧ ((c.toNat : Int) != 9) = true ∧ ((((c.toNat : Int) == 10) = true ∧ ((c.toNat : Int) != 10) = false) ∨ (((c.toNat : Int) == 10) = false ∧ ((c.toNat : Int) != 10) = true ∧ ((((c.toNat : Int) == 13) = true ∧ ((c.toNat : Int) != 13) = false) ∨ (((c.toNat : Int) == 13) = false ∧ ((c.toNat : Int) != 13) = true ∧ ((c.toNat : Int) == 32) = true ∧ ((c.toNat : Int) != 32) = false)))))) ∧ (c.toNat == 35 || b && !(c.toNat == 10)) = false) ∨
    (b = true ∧ ((c.toNat : Int) == 35) = false ∧ ((c.toNat : Int) == 10) = true ∧ ((c.toNat : Int) != 10) = false ∧ ((c.toNat : Int) == 9) = false ∧ ((c.toNat : Int) != 9) = true ∧ (c.toNat == 35 || b && !(c.toNat == 10)) = false) ∨
    (b = true ∧ ((c.toNat : Int) == 35) = false ∧ ((c.toNat : Int) == 10) = false ∧ ((c.toNat : Int) != 10) = true ∧ (c.toNat == 35 || b && !(c.toNat == 10)) = true) := by
  by_cases h35 : c.toNat = 35
  · exact .inl ⟨ibeq_t (by omega), by simp [h35]⟩
  · have e35 : ((c.toNat : Int) == 35) = false := ibeq_f (by omega)
    cases b
    · refine .inr (.inl ⟨rfl, e35, ?_, by simp [h35]⟩)
      have hb := Lx.blank_cases ((h rfl).resolve_left h35)
      by_cases h9 : c.toNat = 9
      · exact .inl ⟨by simp [h9], by simp [h9]⟩
      · refine .inr ⟨by simpa using (by omega : ¬ (c.toNat : Int) = 9), by simpa using (by omega : ¬ (c.toNat : Int) = 9), ?_⟩
        by_cases h10 : c.toNat = 10
        · exact .inl ⟨by simp [h10], by simp [h10]⟩
        · refine .inr ⟨by simpa using (by omega : ¬ (c.toNat : Int) = 10), by simpa using (by omega : ¬ (c.toNat : Int) = 10), ?_⟩
          by_cases h13 : c.toNat = 13
          · exact .inl ⟨by simp [h13], by simp [h13]⟩
          · have h32 : c.toNat = 32 := by omega
            exact .inr ⟨by simpa using (by omega : ¬ (c.toNat : Int) = 13), by simpa using (by omega : ¬ (c.toNat : Int) = 13), by simp [h32], by simp [h32]⟩
    · by_cases h10 : c.toNat = 10
      · exact .inr (.inr (.inl ⟨rfl, e35, by simp [h10], by simp [h10], by simp [h10], by simp [h10], by simp [h10]⟩))
      · exact .inr (.inr (.inr ⟨rfl, e35, by simpa using (by omega : ¬ (c.toNat : Int) = 10), by simpa using (by omega : ¬ (c.toNat : Int) = 10), by simp [h10]⟩))

theorem stand_cases {s : ByteArray} {k : Int} {t : List UInt8} {q n i N : Nat} (htx : Lx.txt k t = (s.data.toList.drop q).take n) (hk : k = 6 ↔ ¬ i + 1 < N) (hi : i < N) :
    (k == 6) = false ∧ ((i : Int) == (N : Int) - 1) = false ∧ (k == 3) = true ∧ (⟨([34] ++ Lx.esc t ++ [34]).toArray⟩ : ByteArray) = s.extract q (q + n) ∨
    (k == 6) = false ∧ ((i : Int) == (N : Int) - 1) = false ∧ (k == 3) = false ∧ (⟨t.toArray⟩ : ByteArray) = s.extract q (q + n) ∨
    (k == 6) = true ∧ ((i : Int) == (N : Int) - 1) = true ∧ (k == 3) = false ∧ (⟨t.toArray⟩ : ByteArray) = s.extract q (q + n) := by
  have hl : (s.extract q (q + n)).data.toList = (s.data.toList.drop q).take n := by rw [piece_list]; congr 1; omega
  by_cases h6 : k = 6
  · have := hk.1 h6
    refine .inr (.inr ⟨ibeq_t h6, ibeq_t (by omega), ibeq_f (by omega), WideShapes.bytes_inj ?_⟩)
    rw [hl, ← htx]; simp [Lx.txt, h6]
  · have : i + 1 < N := Decidable.not_not.1 (fun h => h6 (hk.2 h))
    by_cases h3 : k = 3
    · refine .inl ⟨ibeq_f h6, ibeq_f (by omega), ibeq_t h3, WideShapes.bytes_inj ?_⟩
      rw [hl, ← htx]; simp [Lx.txt, h3]
    · refine .inr (.inl ⟨ibeq_f h6, ibeq_f (by omega), ibeq_f h3, WideShapes.bytes_inj ?_⟩)
      rw [hl, ← htx]; simp [Lx.txt, h3]

set_option maxRecDepth 100000 in
set_option maxHeartbeats 8000000 in
theorem law_stands (s : ByteArray) (w : World) (ws : s.size ≤ maxLen) (henv : Env w) :
    Calls Tryd.prog 9 #[.string s] w fun e w' => e = .returned (.bool true) ∧ Below w.heap.size w w' := by
  obtain ⟨m, hm⟩ : ∃ m : Nat, m = min s.size 4001 := ⟨_, rfl⟩
  have hb := brief_any s m hm ws w
  have hts : (s.extract 0 m).size = m := take_size s m (by omega)
  generalize s.extract 0 m = t at *
  have HB := Lib.hid hb
  have HE := Lib.hid henv
  clear hb henv hm
  by_cases h4 : 4000 < t.size
  · have T := Lib.hid (fun w => tokens_full t w h4)
    clear hts h4
    go_enter Tryd.func9, Tryd.ntmps9
    go_wp2_with fail
    refine HB.out.mono ?_
    rintro e w' ⟨rfl, hw⟩
    obtain rfl : w = w' := hw
    go_wp2_with fail
    refine (T.out _).mono ?_
    rintro e w1 ⟨rfl, hb1⟩
    have HB1 := Lib.hid hb1
    clear hb1
    go_wp2_with fail
    refine (awake_any w1 (HE.out.below HE.out.2.2 HB1.out)).mono ?_
    rintro e w3 ⟨rfl, hb3⟩
    have HB3 := Lib.hid (HB1.out.trans (hb3.mono HB1.out.size))
    clear hb3
    go_wp2
    go_ret
    exact ⟨rfl, HB3.out⟩
  · have T := Lib.hid (tokens_any t w HE.out (by omega))
    have hne := fun l => Lx.tokens_parts (s := t.data.toList) (l := l) []
    have ht4 : (t.size : Int) ≤ 4000 := by omega
    have HL : Hid (t.data.toList.length = t.size) := Lib.hid (list_len t)
    clear hts h4
    go_enter Tryd.func9, Tryd.ntmps9
    go_wp2_with fail
    refine HB.out.mono ?_
    rintro e w' ⟨rfl, hw⟩
    obtain rfl : w = w' := hw
    go_wp2_with fail
    refine T.out.mono ?_
    rintro e w1 ⟨h0, hp, hb1⟩
    have HB1 := Lib.hid hb1
    clear T
    cases hres : (Lx.tokens t.data.toList).2 with
    | some p =>
      obtain rfl := hp p hres
      clear h0 hp hres hb1
      go_wp2_with fail
      refine (awake_any w1 (HE.out.below HE.out.2.2 HB1.out)).mono ?_
      rintro e w3 ⟨rfl, hb3⟩
      have HB3 := Lib.hid (HB1.out.trans (hb3.mono HB1.out.size))
      clear hb3
      go_wp2
      go_ret
      exact ⟨rfl, HB3.out⟩
    | none =>
      obtain ⟨v, rfl, hrow⟩ := h0 hres
      obtain ⟨pre, hl, -⟩ := hne (Lx.tokens t.data.toList).1 (Prod.ext rfl hres)
      have hln := Lx.scan_len (s := t.data.toList) (t.data.toList.length + 1) 0
      rw [show Lx.scan t.data.toList (t.data.toList.length + 1) 0 = Lx.tokens t.data.toList from rfl, list_len] at hln
      obtain ⟨N, hN⟩ : ∃ N, N = (Lx.tokens t.data.toList).1.length := ⟨_, rfl⟩
      rw [← hN] at hrow hln
      have hN0 : 0 < N := by rw [hN, hl]; simp
      have hlast : ∀ h : N - 1 < (Lx.tokens t.data.toList).1.length, (Lx.tokens t.data.toList).1[N - 1]'h = (6, [], t.data.toList.length) := fun h => by
        have e : N - 1 = pre.length := by rw [hN, hl]; simp
        simp only [hl, e]; simp
      obtain ⟨g, cap, rfl, hgc, hgm⟩ := row_form hrow hN0
      unfold maxLen at hgm
      have HS : Hid (Lx.SJ t.data.toList 0 0) := Lib.hid (Lx.SJ.start hres)
      have HW := Lib.hid hrow
      have HN := Lib.hid hN
      have HLast := Lib.hid hlast
      clear h0 hp hres hb1 hrow hne hl hN hlast
      go_wp2_with fail
      go_loopw [7, 8] (fun x y wr => ∃ a i : Nat, i ≤ N ∧ a ≤ t.size ∧ x = .int .i64 a ∧ y = .int .i64 i ∧ Below w1.heap.size w1 wr ∧ Hid (i < N → Lx.SJ t.data.toList i a)) (fun _ y _ => N - (intOf y).toNat)
      case atStart => exact ⟨0, 0, Nat.zero_le _, Nat.zero_le _, rfl, rfl, Below.refl _ _, Lib.hid fun _ => HS.out⟩
      case round =>
        obtain ⟨a, i, hiN, hat, rfl, rfl, hB, hSJ⟩ := hrel
        obtain ⟨wo, rfl⟩ : ∃ wo : World, wo = wr := ⟨_, rfl⟩
        have hBz := hB.size
        have HBO := Lib.hid hB
        clear hB
        by_cases hlt : i < N
        · have hiL : i < (Lx.tokens t.data.toList).1.length := by rw [← HN.out]; exact hlt
          obtain ⟨k, tt, q, n, hx, haq, hqn, hsk, htok, htx, hk6, hnx⟩ := (hSJ.out hlt).round hiL
          rw [HL.out] at hqn
          rw [← HN.out] at hk6 hnx
          obtain ⟨a0, a1, a2⟩ := row_cells (own_below HW.out HBO.out) i hiL HN.out.symm
          rw [hx] at a0 a1 a2
          simp only at a0 a1 a2
          have hc := stand_cases (s := t) htx hk6 hlt
          have HX : Hid (∀ b, Lx.skipB b (t.data.toList.drop q) = q - q → i + 1 < N → b = false) := Lib.hid fun b hb hlt2 => Lx.skip_done hb (by rw [HL.out]; have := (hnx hlt2).1; rw [HL.out] at this; exact this)
          have HNX : Hid (i + 1 < N → Lx.SJ t.data.toList (i + 1) (q + n)) := Lib.hid fun h => (hnx h).2
          have HSK := Lib.hid hsk
          have IT : Hid (∀ w, Calls Tryd.prog 33 #[.agg #[.int .i64 k, .string ⟨tt.toArray⟩, .int .i64 (q : Nat)]] w fun e w' => e = .returned (.bool true) ∧ Below w.heap.size w w') := Lib.hid fun w => by
            have h60 : (⟨tt.toArray⟩ : ByteArray).size ≤ 9223372036854775807 := by
              rcases hc with ⟨_, _, _, h⟩ | ⟨_, _, _, h⟩ | ⟨_, _, _, h⟩
              · have h1 := congrArg ByteArray.size h
                have h2 := Lx.esc_ge tt
                rw [bytes_len, List.length_append, List.length_append] at h1
                have h3 : (t.extract q (q + n)).size = n := by simp; omega
                rw [bytes_len]; omega
              · rw [h]; simp; omega
              · rw [h]; simp; omega
            have := rIsToken_any k ⟨tt.toArray⟩ (q : Nat) w h60
            rw [show (⟨tt.toArray⟩ : ByteArray).data.toList = tt from rfl, htok] at this
            exact this
          have RQ : Hid (∀ w, tt.length ≤ 4294967281 → Calls Tryd.prog 30 #[.string ⟨tt.toArray⟩] w fun e w' => e = .returned (.string ⟨([34] ++ Lx.esc tt ++ [34]).toArray⟩) ∧ Below w.heap.size w w') := Lib.hid fun w h => refQuote_any ⟨tt.toArray⟩ w (by simpa [ByteArray.size] using h)
          have f1 : ¬ (q : Int) < a := by omega
          have f2 : ¬ (t.size : Int) < q := by omega
          have f3 : ¬ (t.size : Int) < (q : Int) + n := by omega
          have f4 : (q : Int) ≤ (q : Int) + n := by omega
          have f5 : (q : Int) + n ≤ t.size := by omega
          have e0 : ((q : Int) + n).toNat = q + n := by omega
          have e1 : (t.extract q (q + n)).size = n := by simp; omega
          rcases hc with ⟨k6, il, k3, htb⟩ | ⟨k6, il, k3, htb⟩ | ⟨k6, il, k3, htb⟩
          · have h60 : tt.length ≤ 4294967281 := by
              have h1 := congrArg ByteArray.size htb
              rw [e1] at h1
              have h2 := Lx.esc_ge tt
              rw [bytes_len, List.length_append, List.length_append] at h1
              omega
            have QQ : Hid (∀ w, Calls Tryd.prog 30 #[.string ⟨tt.toArray⟩] w fun e w' => e = .returned (.string (t.extract q (q + n))) ∧ Below w.heap.size w w') := Lib.hid fun w => by
              have := RQ.out w h60; rw [htb] at this; exact this
            generalize (⟨tt.toArray⟩ : ByteArray) = tb at *
            generalize htx2 : t.extract q (q + n) = tx at *
            clear htb h60 hx htok htx hk6 hnx hsk RQ
            go_wp2_with (first | (go_at_call 33; refine (IT.out _).mono ?_; rintro e W2 ⟨rfl, hb⟩; have hbb := Lib.hid (HBO.out.trans ((new1_then' hb).mono hBz)); obtain ⟨x0, x1, x2, y0, y1, y2, hz⟩ := keep3' hb; clear hb))
            go_loop [10, 11] (fun c j => ∃ (b : Bool) (j' : Nat), a ≤ j' ∧ j' ≤ q ∧ c = .bool b ∧ j = .int .i64 j' ∧ Hid (Lx.skipB b (t.data.toList.drop j') = q - j')) (fun _ j => q - (intOf j).toNat)
            case atStart => exact ⟨false, a, Nat.le_refl _, haq, rfl, rfl, HSK⟩
            case round =>
              obtain ⟨b, j, haj, hjq, rfl, rfl, hR⟩ := hrel
              by_cases hjl : j < q
              · have hjt : j < t.size := by omega
                obtain ⟨hjd, hq1, hq2⟩ := Lx.skip_round hR.out hjl (by rw [HL.out]; omega)
                have hg : t.data.toList[j]'hjd = t[j]'hjt := rfl
                rw [hg] at hq1 hq2
                have hf := stand_byte b (t[j]'hjt) hq1
                clear hq1 hg hR hjd
                rcases hf with ⟨b35, e⟩ | ⟨rfl, b35, hbl, e⟩ | ⟨rfl, b35, b10, c10, b9, c9, e⟩ | ⟨rfl, b35, b10, c10, e⟩
                · rw [e] at hq2
                  have HQ := Lib.hid hq2
                  clear hq2 e
                  go_wp2
                  go_round
                  case rel => exact ⟨true, j + 1, by omega, by omega, rfl, by go_num, HQ⟩
                  case measure => simp [intOf]; omega
                · rw [e] at hq2
                  have HQ := Lib.hid hq2
                  have HBL := Lib.hid hbl
                  clear hq2 e hbl
                  rcases HBL.out with ⟨b1, c1⟩ | ⟨b1, c1, ⟨b2, c2⟩ | ⟨b2, c2, ⟨b3, c3⟩ | ⟨b3, c3, b4, c4⟩⟩⟩
                  all_goals
                    go_wp2
                    go_round
                    case rel => exact ⟨false, j + 1, by omega, by omega, rfl, by go_num, HQ⟩
                    case measure => simp [intOf]; omega
                · rw [e] at hq2
                  have HQ := Lib.hid hq2
                  clear hq2 e
                  go_wp2
                  go_round
                  case rel => exact ⟨false, j + 1, by omega, by omega, rfl, by go_num, HQ⟩
                  case measure => simp [intOf]; omega
                · rw [e] at hq2
                  have HQ := Lib.hid hq2
                  clear hq2 e
                  go_wp2
                  go_round
                  case rel => exact ⟨true, j + 1, by omega, by omega, rfl, by go_num, HQ⟩
                  case measure => simp [intOf]; omega
              · have hjq2 : j = q := by omega
                have hb := HX.out b (by have := hR.out; rw [hjq2] at this; exact this)
                have hl3 : Hid (b = true → ¬ (i : Int) < (N : Int) - 1) := Lib.hid fun h h2 => by
                  have := hb (by omega); rw [h] at this; cases this
                clear hjq2 hb hR
                have HXX := Lib.hid HX
                cases b
                all_goals
                  have h7 := hl3.out
                  simp only [Bool.false_eq_true, false_implies, forall_const] at h7
                  go_wp2_with (first | (go_at_call 30; refine (QQ.out _).mono ?_; rintro e W3 ⟨rfl, hb⟩; have hb3 := Lib.hid (hbb.out.trans (hb.mono hbb.out.size)); have u0 := (hb.cell (p := ⟨wo.heap.size, 0, none⟩) hz).trans x0; have u1 := (hb.cell (p := ⟨wo.heap.size, 1, none⟩) hz).trans x1; have u2 := (hb.cell (p := ⟨wo.heap.size, 2, none⟩) hz).trans x2; clear hb))
                  go_roundw
                  case rel => exact ⟨q + n, i + 1, by omega, by omega, by go_num, by go_num, hb3.out, HNX⟩
                  case measure => simp [intOf]; omega
          · generalize (⟨tt.toArray⟩ : ByteArray) = tb at *
            subst htb
            generalize htx2 : t.extract q (q + n) = tx at *
            clear hx htok htx hk6 hnx hsk RQ
            go_wp2_with (first | (go_at_call 33; refine (IT.out _).mono ?_; rintro e W2 ⟨rfl, hb⟩; have hbb := Lib.hid (HBO.out.trans ((new1_then' hb).mono hBz)); obtain ⟨x0, x1, x2, y0, y1, y2, hz⟩ := keep3' hb; clear hb))
            go_loop [10, 11] (fun c j => ∃ (b : Bool) (j' : Nat), a ≤ j' ∧ j' ≤ q ∧ c = .bool b ∧ j = .int .i64 j' ∧ Hid (Lx.skipB b (t.data.toList.drop j') = q - j')) (fun _ j => q - (intOf j).toNat)
            case atStart => exact ⟨false, a, Nat.le_refl _, haq, rfl, rfl, HSK⟩
            case round =>
              obtain ⟨b, j, haj, hjq, rfl, rfl, hR⟩ := hrel
              by_cases hjl : j < q
              · have hjt : j < t.size := by omega
                obtain ⟨hjd, hq1, hq2⟩ := Lx.skip_round hR.out hjl (by rw [HL.out]; omega)
                have hg : t.data.toList[j]'hjd = t[j]'hjt := rfl
                rw [hg] at hq1 hq2
                have hf := stand_byte b (t[j]'hjt) hq1
                clear hq1 hg hR hjd
                rcases hf with ⟨b35, e⟩ | ⟨rfl, b35, hbl, e⟩ | ⟨rfl, b35, b10, c10, b9, c9, e⟩ | ⟨rfl, b35, b10, c10, e⟩
                · rw [e] at hq2
                  have HQ := Lib.hid hq2
                  clear hq2 e
                  go_wp2
                  go_round
                  case rel => exact ⟨true, j + 1, by omega, by omega, rfl, by go_num, HQ⟩
                  case measure => simp [intOf]; omega
                · rw [e] at hq2
                  have HQ := Lib.hid hq2
                  have HBL := Lib.hid hbl
                  clear hq2 e hbl
                  rcases HBL.out with ⟨b1, c1⟩ | ⟨b1, c1, ⟨b2, c2⟩ | ⟨b2, c2, ⟨b3, c3⟩ | ⟨b3, c3, b4, c4⟩⟩⟩
                  all_goals
                    go_wp2
                    go_round
                    case rel => exact ⟨false, j + 1, by omega, by omega, rfl, by go_num, HQ⟩
                    case measure => simp [intOf]; omega
                · rw [e] at hq2
                  have HQ := Lib.hid hq2
                  clear hq2 e
                  go_wp2
                  go_round
                  case rel => exact ⟨false, j + 1, by omega, by omega, rfl, by go_num, HQ⟩
                  case measure => simp [intOf]; omega
                · rw [e] at hq2
                  have HQ := Lib.hid hq2
                  clear hq2 e
                  go_wp2
                  go_round
                  case rel => exact ⟨true, j + 1, by omega, by omega, rfl, by go_num, HQ⟩
                  case measure => simp [intOf]; omega
              · have hjq2 : j = q := by omega
                have hb := HX.out b (by have := hR.out; rw [hjq2] at this; exact this)
                have hl3 : Hid (b = true → ¬ (i : Int) < (N : Int) - 1) := Lib.hid fun h h2 => by
                  have := hb (by omega); rw [h] at this; cases this
                clear hjq2 hb hR
                have HXX := Lib.hid HX
                cases b
                all_goals
                  have h7 := hl3.out
                  simp only [Bool.false_eq_true, false_implies, forall_const] at h7
                  go_wp2
                  go_roundw
                  case rel => exact ⟨q + n, i + 1, by omega, by omega, by go_num, by go_num, hbb.out, HNX⟩
                  case measure => simp [intOf]; omega
          · generalize (⟨tt.toArray⟩ : ByteArray) = tb at *
            subst htb
            generalize htx2 : t.extract q (q + n) = tx at *
            clear hx htok htx hk6 hnx hsk RQ
            go_wp2_with (first | (go_at_call 33; refine (IT.out _).mono ?_; rintro e W2 ⟨rfl, hb⟩; have hbb := Lib.hid (HBO.out.trans ((new1_then' hb).mono hBz)); obtain ⟨x0, x1, x2, y0, y1, y2, hz⟩ := keep3' hb; clear hb))
            go_loop [10, 11] (fun c j => ∃ (b : Bool) (j' : Nat), a ≤ j' ∧ j' ≤ q ∧ c = .bool b ∧ j = .int .i64 j' ∧ Hid (Lx.skipB b (t.data.toList.drop j') = q - j')) (fun _ j => q - (intOf j).toNat)
            case atStart => exact ⟨false, a, Nat.le_refl _, haq, rfl, rfl, HSK⟩
            case round =>
              obtain ⟨b, j, haj, hjq, rfl, rfl, hR⟩ := hrel
              by_cases hjl : j < q
              · have hjt : j < t.size := by omega
                obtain ⟨hjd, hq1, hq2⟩ := Lx.skip_round hR.out hjl (by rw [HL.out]; omega)
                have hg : t.data.toList[j]'hjd = t[j]'hjt := rfl
                rw [hg] at hq1 hq2
                have hf := stand_byte b (t[j]'hjt) hq1
                clear hq1 hg hR hjd
                rcases hf with ⟨b35, e⟩ | ⟨rfl, b35, hbl, e⟩ | ⟨rfl, b35, b10, c10, b9, c9, e⟩ | ⟨rfl, b35, b10, c10, e⟩
                · rw [e] at hq2
                  have HQ := Lib.hid hq2
                  clear hq2 e
                  go_wp2
                  go_round
                  case rel => exact ⟨true, j + 1, by omega, by omega, rfl, by go_num, HQ⟩
                  case measure => simp [intOf]; omega
                · rw [e] at hq2
                  have HQ := Lib.hid hq2
                  have HBL := Lib.hid hbl
                  clear hq2 e hbl
                  rcases HBL.out with ⟨b1, c1⟩ | ⟨b1, c1, ⟨b2, c2⟩ | ⟨b2, c2, ⟨b3, c3⟩ | ⟨b3, c3, b4, c4⟩⟩⟩
                  all_goals
                    go_wp2
                    go_round
                    case rel => exact ⟨false, j + 1, by omega, by omega, rfl, by go_num, HQ⟩
                    case measure => simp [intOf]; omega
                · rw [e] at hq2
                  have HQ := Lib.hid hq2
                  clear hq2 e
                  go_wp2
                  go_round
                  case rel => exact ⟨false, j + 1, by omega, by omega, rfl, by go_num, HQ⟩
                  case measure => simp [intOf]; omega
                · rw [e] at hq2
                  have HQ := Lib.hid hq2
                  clear hq2 e
                  go_wp2
                  go_round
                  case rel => exact ⟨true, j + 1, by omega, by omega, rfl, by go_num, HQ⟩
                  case measure => simp [intOf]; omega
              · have hjq2 : j = q := by omega
                have hb := HX.out b (by have := hR.out; rw [hjq2] at this; exact this)
                have hl3 : Hid (b = true → ¬ (i : Int) < (N : Int) - 1) := Lib.hid fun h h2 => by
                  have := hb (by omega); rw [h] at this; cases this
                clear hjq2 hb hR
                have HXX := Lib.hid HX
                cases b
                all_goals
                  have h7 := hl3.out
                  simp only [Bool.false_eq_true, false_implies, forall_const] at h7
                  go_wp2
                  go_roundw
                  case rel => exact ⟨q + n, i + 1, by omega, by omega, by go_num, by go_num, hbb.out, HNX⟩
                  case measure => simp [intOf]; omega
        · obtain rfl : i = N := by omega
          have hL0 : i - 1 < (Lx.tokens t.data.toList).1.length := by have := HN.out; omega
          obtain ⟨-, -, a2⟩ := row_cells (own_below HW.out HBO.out) (i - 1) hL0 HN.out.symm
          rw [HLast.out hL0] at a2
          simp only at a2
          rw [HL.out] at a2
          have n1 : ((i : Int) - 1).toNat = i - 1 := by omega
          have n2 : 0 ≤ (i : Int) - 1 := by omega
          have n3 : (0 : Int) < i := by omega
          have HB2 := Lib.hid (HB1.out.trans (HBO.out.mono HB1.out.size))
          clear hL0 hlt
          go_wp2_with fail
          refine (awake_any wo (HE.out.below HE.out.2.2 HB2.out)).mono ?_
          rintro e w3 ⟨rfl, hb3⟩
          have HB3 := Lib.hid (HB2.out.trans (hb3.mono HB2.out.size))
          clear hb3
          go_wp2
          go_ret
          exact ⟨rfl, HB3.out⟩

end Go.Proofs.YtbhknpombmdhiaaDoor
