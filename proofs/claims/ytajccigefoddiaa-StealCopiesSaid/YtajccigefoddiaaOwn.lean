/- Which numbers are within; what the owner has to do. -/
import Derived.Test.YtajccigefoddiaaRd2
namespace Go.Proofs.Ytajccigefoddiaa
set_option linter.unusedVariables false
set_option linter.unusedSimpArgs false
open Go.RowKit Go.Shelf
theorem info122 : (Try.prog.info? 122).map (fun i => (i.zero, i.size, i.bytes)) = some (some .nilIface, 1, 16) := by kernel_rfl
theorem info91 : (Try.prog.info? 91).map (fun i => (i.zero, i.size, i.bytes)) = some (some (.agg #[.slice none 0 0, .nilFunc, .slice none 0 0]), 3, 56) := by kernel_rfl
def inRange (m n : Int) : Bool := decide (0 ≤ n) && decide (n ≤ m)
set_option maxRecDepth 100000 in
theorem within1_any (w : World) (b : Nat) (m n : Int) (hb : b < w.heap.size) (hc : w.cell? ⟨b, 0, none⟩ = some (.int .i64 m)) : Calls Try.prog 81 #[.int .i64 n, ptr b] w (same w (.bool (!inRange m n))) := by
  unfold same inRange
  by_cases h1 : n < 0
  · have e : (!(decide (0 ≤ n) && decide (n ≤ m))) = true := by simp; omega
    rw [e]
    clear e
    go_enter Try.func81, Try.ntmps81
    go_wp2
    go_ret
    exact ⟨rfl, rfl⟩
  · have h2 : decide (n < 0) = false := by simpa using h1
    have e : (!(decide (0 ≤ n) && decide (n ≤ m))) = decide (m < n) := by
      by_cases h3 : m < n
      · first | (simp [h3]; done) | (simp [h3]; omega)
      · first | (simp [h3]; done) | (simp [h3]; omega)
    rw [e]
    clear e h1
    go_enter Try.func81, Try.ntmps81
    go_wp2
    go_ret
    exact ⟨by first | rfl | simp, rfl⟩
set_option maxRecDepth 100000 in
set_option maxHeartbeats 1000000 in
theorem indexI_any (w : World) (p : Option Addr) (cap : Nat) (l : List Int) (hl : l.length ≤ 1000000) (hp : NumsAt w p l) (b : Nat) (m : Int) (hb : b < w.heap.size) (hc : w.cell? ⟨b, 0, none⟩ = some (.int .i64 m)) :
    Calls Try.prog 89 #[.slice p l.length cap, .func (.func 81) #[] #[ptr b]] w fun e w' => (∃ k, e = .returned (.int .i64 k) ∧ -1 ≤ k ∧ k ≤ 1000000 ∧ (0 ≤ k ↔ l.all (inRange m) = false)) ∧ w' = w := by
  obtain ⟨n, hnn⟩ : ∃ n, n = l.length := ⟨_, rfl⟩
  have HN := Lib.hid hnn
  have HP := Lib.hid hp
  rw [← hnn] at hl ⊢
  have C := Lib.hid (fun x => within1_any w b m x hb hc)
  unfold same at C
  clear hnn hp
  go_enter Try.func89, Try.ntmps89
  go_wp2_with fail
  go_loopw [8] (fun i wr => ∃ k : Nat, k ≤ n ∧ i = .int .i64 (k : Int) ∧ wr = w ∧ Hid (∀ (j : Nat) a, j < k → l[j]? = some a → inRange m a = true)) (fun i _ => n - (intOf i).toNat)
  case atStart => exact ⟨0, Nat.zero_le _, rfl, rfl, Lib.hid (by intro j a hj; omega)⟩
  case round =>
    obtain ⟨k, hk, rfl, rfl, HJ⟩ := hrel
    by_cases hlt : k < n
    · obtain ⟨a, ha⟩ : ∃ a, l[k]? = some a := ⟨_, List.getElem?_eq_getElem (by have := HN.out; omega)⟩
      obtain ⟨g, off, rfl, hg, hcc⟩ := HP.out (by have := HN.out; omega)
      have c0 := hcc k (by have := HN.out; omega)
      rw [List.getD_eq_getElem?_getD, ha] at c0
      simp only [Option.getD_some] at c0
      have j1 : (k : Int) < (n : Int) := by omega
      have HA := Lib.hid ha
      clear hcc ha
      cases hov : inRange m a with
      | true =>
        have C1 := Lib.hid (C.out a)
        rw [hov] at C1
        have HOV := Lib.hid hov
        clear hov
        go_wp2_with fail
        refine C1.out.mono ?_
        rintro e w2 ⟨rfl, rfl⟩
        go_wp2
        go_roundw
        case rel => exact ⟨k + 1, by omega, by go_num, by trivial, Lib.hid (by
          intro j b hj hb
          by_cases hjk : j < k
          · exact HJ.out j b hjk hb
          · obtain rfl : j = k := by omega
            rw [HA.out] at hb; cases hb
            exact HOV.out)⟩
        case measure => simp [intOf]; omega
      | false =>
        have C1 := Lib.hid (C.out a)
        rw [hov] at C1
        have HOV := Lib.hid hov
        clear hov
        go_wp2_with fail
        refine C1.out.mono ?_
        rintro e w2 ⟨rfl, rfl⟩
        go_wp2
        go_ret
        refine ⟨⟨_, rfl, by omega, by omega, ⟨fun _ => ?_, fun _ => by omega⟩⟩, rfl⟩
        cases h : l.all (inRange m) with
        | false => rfl
        | true =>
          rw [List.all_eq_true] at h
          have := h a (List.mem_of_getElem? HA.out)
          rw [HOV.out] at this; cases this
    · obtain rfl : k = n := by omega
      go_wp2
      go_ret
      refine ⟨⟨_, rfl, by omega, by omega, ⟨fun hh => by omega, fun hh => ?_⟩⟩, rfl⟩
      exfalso
      have : l.all (inRange m) = true := by
        rw [List.all_eq_true]
        intro b hb
        obtain ⟨j, hj⟩ := List.getElem?_of_mem hb
        exact HJ.out j b (by have := (List.getElem?_eq_some_iff.1 hj).1; have := HN.out; omega) hj
      rw [this] at hh; cases hh
set_option maxRecDepth 100000 in
theorem within_any (w : World) (p : Option Addr) (cap : Nat) (l : List Int) (hl : l.length ≤ 1000000) (hp : NumsAt w p l) (m : Int) : Calls Try.prog 63 #[.slice p l.length cap, .int .i64 m] w (still w (.bool (l.all (inRange m)))) := by
  have H := Lib.hid (indexI_any (w.alloc (.cells #[.int .i64 m] 3)) p cap l hl (hp.below (one _ _)) w.heap.size m (by simp) ((Blk.new w _ _).cell 0 _ rfl))
  have HC : Hid (Calls Try.prog 80 #[.slice p l.length cap, .func (.func 81) #[] #[ptr w.heap.size]] (w.alloc (.cells #[.int .i64 m] 3)) fun e w' => e = .returned (.bool (!l.all (inRange m))) ∧ w' = (w.alloc (.cells #[.int .i64 m] 3))) := Lib.hid (by
    generalize l.length = n at *
    generalize l.all (inRange m) = ov at *
    go_enter Try.func80, Try.ntmps80
    go_wp2_with fail
    refine H.out.mono ?_
    rintro e w1 ⟨⟨k, rfl, h1, h2, h3⟩, rfl⟩
    cases ov with
    | true =>
      have j1 : decide (k ≥ 0) = false := by simp only [ge_iff_le, decide_eq_false_iff_not]; intro h; have := h3.1 h; cases this
      clear h3
      go_wp2
      go_ret
      exact ⟨by first | rfl | (congr 2; done) | (congr 2; simpa using j1), rfl⟩
    | false =>
      have j0 : 0 ≤ k := h3.2 rfl
      clear h3
      go_wp2
      go_ret
      exact ⟨by first | rfl | (congr 2; done) | (congr 2; simp; omega), rfl⟩)
  unfold still
  generalize l.length = n at *
  generalize l.all (inRange m) = ov at *
  clear H hp
  go_enter Try.func63, Try.ntmps63
  go_wp2_with fail
  refine HC.out.mono ?_
  rintro e w1 ⟨rfl, rfl⟩
  go_wp2
  go_ret
  exact ⟨by cases ov <;> rfl, one _ _⟩
end Go.Proofs.Ytajccigefoddiaa
