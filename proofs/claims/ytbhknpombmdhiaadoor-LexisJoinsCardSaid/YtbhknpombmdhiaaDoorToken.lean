/- What the scanner's method token returns: the token that begins at the scanner's position, if there is one. -/
import Derived.Test.YtbhknpombmdhiaaDoorScan
namespace Go.Proofs.YtbhknpombmdhiaaDoor
open Go.RowKit

namespace Lx
theorem run_pos {p : UInt8 → Bool} {c : UInt8} {l : List UInt8} (h : p c = true) : 0 < run p (c :: l) := by simp [run, h]
theorem wordTok_pos {r t : List UInt8} {k : Int} {n : Nat} (h : wordTok r = some (k, t, n)) : 0 < n ∧ n ≤ r.length := by
  cases r with
  | nil => cases h
  | cons c l =>
    have hl : isLetter c = true := by
      by_cases e : isLetter c = true
      · exact e
      · simp [wordTok, e] at h
    have hp : 0 < run isLD (c :: l) := run_pos (by simp [isLD, hl])
    have hle := run_le isLD (c :: l)
    simp only [wordTok, hl, if_true] at h
    split at h
    · cases h; exact ⟨hp, hle⟩
    · split at h
      · cases h; exact ⟨hp, hle⟩
      · cases h
theorem numTok_pos {r t : List UInt8} {k : Int} {n : Nat} (h : numTok r = some (k, t, n)) : 0 < n ∧ n ≤ r.length := by
  unfold numTok at h
  split at h
  · rename_i hn
    cases h
    refine ⟨?_, run_le _ _⟩
    cases e : run isDigit r with
    | zero => rw [e] at hn; simp [isNumeral] at hn
    | succ m => omega
  · cases h
theorem quoteGo_le : ∀ (m : Nat) (l t : List UInt8) (n : Nat), l.length ≤ m → quoteGo l = some (t, n) → 0 < n ∧ n ≤ l.length
  | m, [], t, n, _, h => by cases h
  | 0, c :: l, t, n, hm, h => by simp at hm
  | m + 1, c :: l, t, n, hm, h => by
    have hm' : l.length ≤ m := by simpa using hm
    by_cases h1 : c.toNat = 34
    · rw [go_close l h1] at h; cases h; simp
    · by_cases h2 : c.toNat = 92
      · cases l with
        | nil => rw [go_cut h2] at h; cases h
        | cons d l' =>
          cases h3 : needsEsc d
          · rw [go_bad_esc l' h2 h3] at h; cases h
          · rw [go_esc l' h2 h3] at h
            cases h4 : quoteGo l' with
            | none => rw [h4] at h; cases h
            | some p =>
              rw [h4] at h; cases h
              have := quoteGo_le m l' p.1 p.2 (by simp at hm'; omega) h4
              simp; omega
      · cases h3 : isPrinted c
        · rw [go_bad l h1 h2 h3] at h; cases h
        · rw [go_plain l h1 h2 h3] at h
          cases h4 : quoteGo l with
          | none => rw [h4] at h; cases h
          | some p =>
            rw [h4] at h; cases h
            have := quoteGo_le m l p.1 p.2 hm' h4
            simp; omega
theorem quoteTok_pos {r t : List UInt8} {k : Int} {n : Nat} (h : quoteTok r = some (k, t, n)) : 0 < n ∧ n ≤ r.length := by
  cases r with
  | nil => cases h
  | cons c l =>
    by_cases hc : c.toNat = 34
    · cases e : quoteGo l with
      | none => rw [quoteTok_none (r := c :: l) e] at h; cases h
      | some p =>
        rw [quoteTok_some (r := c :: l) rfl hc e] at h
        split at h
        · cases h
          have := quoteGo_le l.length l p.1 p.2 (Nat.le_refl _) e
          simp; omega
        · cases h
    · rw [quoteTok_other (r := c :: l) rfl hc] at h; cases h
theorem signTok_pos {r t : List UInt8} {k : Int} {n : Nat} (h : signTok r = some (k, t, n)) : 0 < n ∧ n ≤ r.length := by
  unfold signTok at h
  split at h
  · rename_i e; cases h; exact ⟨by omega, e.1⟩
  · split at h
    · rename_i e; cases h; exact ⟨by omega, e.1⟩
    · cases h
theorem tokenAt_pos {r t : List UInt8} {k : Int} {n : Nat} (h : tokenAt r = some (k, t, n)) : 0 < n ∧ n ≤ r.length := by
  unfold tokenAt at h
  cases h1 : wordTok r with
  | some p => rw [h1] at h; simp at h; subst h; exact wordTok_pos h1
  | none =>
    rw [h1] at h
    cases h2 : numTok r with
    | some p => rw [h2] at h; simp at h; subst h; exact numTok_pos h2
    | none =>
      rw [h2] at h
      cases h3 : quoteTok r with
      | some p => rw [h3] at h; simp at h; subst h; exact quoteTok_pos h3
      | none => rw [h3] at h; simp at h; exact signTok_pos h
/-- The readers before the k-th one find nothing. -/
def TokQ (r : List UInt8) (k : Nat) : Prop := (0 < k → wordTok r = none) ∧ (1 < k → numTok r = none) ∧ (2 < k → quoteTok r = none) ∧ (3 < k → signTok r = none)
end Lx

set_option maxRecDepth 100000 in
set_option maxHeartbeats 3000000 in
theorem token_any (S Bm : Nat) (src : ByteArray) (a : Nat) (st : Bool) (w : World) (hs : src.size < 4294967281) (ha : a < src.size) (h : Sc w S Bm src a st) (henv : Env w) :
    Calls Tryd.prog 63 #[.pointer (some ⟨S, 0, none⟩)] w fun e w' => e = .returned (tokV (Lx.tokenAt (src.data.toList.drop a))) ∧ Below w.heap.size w w' := by
  have hS1 := h.size
  have hS : S < w.heap.size := by omega
  have c4 := h.c4
  have c4' : ∀ o, (w.alloc o).cell? ⟨S, 4, none⟩ = some (.slice (some ⟨S + 1, 0, none⟩) 4 4) := fun o => by rw [World.cell?_alloc_past _ _ _ hS]; exact c4
  have HH : Hid (∀ W, Below w.heap.size w W → Sc W S Bm src a st ∧ Env W) := Lib.hid fun W hb => ⟨h.below hb hS1, henv.below henv.2.2 hb⟩
  have C0 : Hid (∀ W, Below w.heap.size w W → Calls Tryd.prog 58 #[.pointer (some ⟨S, 0, none⟩)] W fun e w' => e = .returned (tokV (Lx.wordTok (src.data.toList.drop a))) ∧ Below W.heap.size W w') := Lib.hid fun W hb => word_any S src a W hs ha (HH.out W hb).1.c0 (HH.out W hb).1.c1 (HH.out W hb).2
  have C1 : Hid (∀ W, Below w.heap.size w W → Calls Tryd.prog 59 #[.pointer (some ⟨S, 0, none⟩)] W fun e w' => e = .returned (tokV (Lx.numTok (src.data.toList.drop a))) ∧ Below W.heap.size W w') := Lib.hid fun W hb => numeral_any S src a W hs ha (HH.out W hb).1.c0 (HH.out W hb).1.c1 (HH.out W hb).2
  have C2 : Hid (∀ W, Below w.heap.size w W → Calls Tryd.prog 60 #[.pointer (some ⟨S, 0, none⟩)] W fun e w' => e = .returned (tokV (Lx.quoteTok (src.data.toList.drop a))) ∧ Below W.heap.size W w') := Lib.hid fun W hb => quote_any S src a W hs ha (HH.out W hb).1.c0 (HH.out W hb).1.c1
  have C3 : Hid (∀ W, Below w.heap.size w W → Calls Tryd.prog 61 #[.pointer (some ⟨S, 0, none⟩)] W fun e w' => e = .returned (tokV (Lx.signTok (src.data.toList.drop a))) ∧ Below W.heap.size W w') := Lib.hid fun W hb => sign_any S Bm 21 src a W hs ha (HH.out W hb).1.c0 (HH.out W hb).1.c1 (HH.out W hb).1.c3 (HH.out W hb).1.signs
  clear c4 h henv
  have hW0 : Below w.heap.size w (w.alloc (.cells #[.int .i64 0, .string ⟨#[]⟩, .int .i64 0] 47)) := (Below.refl _ _).alloc (Nat.le_refl _) _
  have HW0 := Lib.hid hW0
  clear hW0
  have K3 : Hid (∀ wr, Below (w.heap.size + 1) (w.alloc (.cells #[.int .i64 0, .string ⟨#[]⟩, .int .i64 0] 47)) wr → wr.cell? ⟨w.heap.size, 0, none⟩ = some (.int .i64 0) ∧ wr.cell? ⟨w.heap.size, 1, none⟩ = some (.string ⟨#[]⟩) ∧ wr.cell? ⟨w.heap.size, 2, none⟩ = some (.int .i64 0) ∧
    wr.frozen? ⟨w.heap.size, 0, none⟩ = false ∧ wr.frozen? ⟨w.heap.size, 1, none⟩ = false ∧ wr.frozen? ⟨w.heap.size, 2, none⟩ = false ∧ w.heap.size < wr.heap.size) := Lib.hid fun wr h => keep3 (n := 0) (h.mono (Nat.le_of_eq (World.size_alloc _ _)))
  generalize hr : src.data.toList.drop a = r at *
  clear hr
  go_enter Tryd.func63, Tryd.ntmps63
  go_wp2_with fail
  clear c4'
  go_loopw [13] (fun i wr => ∃ k : Nat, k ≤ 4 ∧ i = .int .i64 k ∧ Below (w.heap.size + 1) (w.alloc (.cells #[.int .i64 0, .string ⟨#[]⟩, .int .i64 0] 47)) wr ∧ Lx.TokQ r k) (fun i _ => 4 - (intOf i).toNat)
  case atStart => exact ⟨0, by omega, rfl, Below.refl _ _, ⟨fun h => absurd h (by omega), fun h => absurd h (by omega), fun h => absurd h (by omega), fun h => absurd h (by omega)⟩⟩
  case round =>
    obtain ⟨k, hk, rfl, hB, hQ⟩ := hrel
    have hQ : Lx.TokQ r k := hQ
    have hBW := HW0.out.trans (hB.mono (by omega))
    have hsc := (HH.out _ hBW).1
    have HBW := Lib.hid hBW
    have HB := Lib.hid hB
    have hz := hB.size
    rw [World.size_alloc] at hz
    by_cases h0 : k = 0
    · have r0 := hsc.r0
      have CC : Hid (Calls Tryd.prog 58 #[.pointer (some ⟨S, 0, none⟩)] wr fun e w' => e = .returned (tokV (Lx.wordTok r)) ∧ Below wr.heap.size wr w') := Lib.hid (C0.out _ HBW.out)
      clear hB hBW hsc C0 C1 C2 C3
      cases ho : Lx.wordTok r with
      | none =>
        have HN : Lx.TokQ r 1 := by
          subst h0
          exact ⟨fun _ => ho, fun h => absurd h (by omega), fun h => absurd h (by omega), fun h => absurd h (by omega)⟩
        rw [ho] at CC
        clear ho hQ
        unfold tokV at CC
        subst h0
        go_wp2_with (go_at_call 58; refine CC.out.mono ?_; rintro e w1 ⟨rfl, hb1⟩; have hB1 := Lib.hid (HB.out.trans (hb1.mono hz)); obtain ⟨x0, x1, x2, y0, y1, y2, hz1⟩ := K3.out _ hB1.out; have hz2 := hb1.size; clear hb1)
        go_roundw
        case rel => exact ⟨1, by omega, by go_num, (by repeat (first | exact hB1.out | refine Below.alloc ?_ (by (try simp); omega) _ | refine Below.setCell ?_ (by (try simp); omega) _)), HN⟩
        case measure => simp [intOf]
      | some p =>
        obtain ⟨kk, tt, nn⟩ := p
        have hpos := (Lx.wordTok_pos ho).1
        have HN : Hid (Lx.tokenAt r = some (kk, tt, nn)) := by
          subst h0
          exact Lib.hid (by simp [Lx.tokenAt, ho])
        rw [ho] at CC
        clear ho hQ
        unfold tokV at CC
        subst h0
        go_wp2_with (go_at_call 58; refine CC.out.mono ?_; rintro e w1 ⟨rfl, hb1⟩; have hB1 := Lib.hid (HB.out.trans (hb1.mono hz)); obtain ⟨x0, x1, x2, y0, y1, y2, hz1⟩ := K3.out _ hB1.out; have hz2 := hb1.size; clear hb1)
        exact bodyPost_ret (v := tokV (some (kk, tt, nn))) (by simp [results, Tryd.results63, go_sem, tokV, x0, x1, x2, hz1]) rfl ⟨by rw [HN.out], (by repeat (first | exact HW0.out.trans (hB1.out.mono (by omega)) | refine Below.alloc ?_ (by (try simp); omega) _ | refine Below.setCell ?_ (by simp) _))⟩
    by_cases h1 : k = 1
    · have r1 := hsc.r1
      have CC : Hid (Calls Tryd.prog 59 #[.pointer (some ⟨S, 0, none⟩)] wr fun e w' => e = .returned (tokV (Lx.numTok r)) ∧ Below wr.heap.size wr w') := Lib.hid (C1.out _ HBW.out)
      clear hB hBW hsc C0 C1 C2 C3
      cases ho : Lx.numTok r with
      | none =>
        have HN : Lx.TokQ r 2 := by
          subst h1
          exact ⟨fun _ => hQ.1 (by omega), fun _ => ho, fun h => absurd h (by omega), fun h => absurd h (by omega)⟩
        rw [ho] at CC
        clear ho hQ
        unfold tokV at CC
        subst h1
        go_wp2_with (go_at_call 59; refine CC.out.mono ?_; rintro e w1 ⟨rfl, hb1⟩; have hB1 := Lib.hid (HB.out.trans (hb1.mono hz)); obtain ⟨x0, x1, x2, y0, y1, y2, hz1⟩ := K3.out _ hB1.out; have hz2 := hb1.size; clear hb1)
        go_roundw
        case rel => exact ⟨2, by omega, by go_num, (by repeat (first | exact hB1.out | refine Below.alloc ?_ (by (try simp); omega) _ | refine Below.setCell ?_ (by (try simp); omega) _)), HN⟩
        case measure => simp [intOf]
      | some p =>
        obtain ⟨kk, tt, nn⟩ := p
        have hpos := (Lx.numTok_pos ho).1
        have HN : Hid (Lx.tokenAt r = some (kk, tt, nn)) := by
          subst h1
          exact Lib.hid (by simp [Lx.tokenAt, ho, hQ.1 (by omega)])
        rw [ho] at CC
        clear ho hQ
        unfold tokV at CC
        subst h1
        go_wp2_with (go_at_call 59; refine CC.out.mono ?_; rintro e w1 ⟨rfl, hb1⟩; have hB1 := Lib.hid (HB.out.trans (hb1.mono hz)); obtain ⟨x0, x1, x2, y0, y1, y2, hz1⟩ := K3.out _ hB1.out; have hz2 := hb1.size; clear hb1)
        exact bodyPost_ret (v := tokV (some (kk, tt, nn))) (by simp [results, Tryd.results63, go_sem, tokV, x0, x1, x2, hz1]) rfl ⟨by rw [HN.out], (by repeat (first | exact HW0.out.trans (hB1.out.mono (by omega)) | refine Below.alloc ?_ (by (try simp); omega) _ | refine Below.setCell ?_ (by simp) _))⟩
    by_cases h2 : k = 2
    · have r2 := hsc.r2
      have CC : Hid (Calls Tryd.prog 60 #[.pointer (some ⟨S, 0, none⟩)] wr fun e w' => e = .returned (tokV (Lx.quoteTok r)) ∧ Below wr.heap.size wr w') := Lib.hid (C2.out _ HBW.out)
      clear hB hBW hsc C0 C1 C2 C3
      cases ho : Lx.quoteTok r with
      | none =>
        have HN : Lx.TokQ r 3 := by
          subst h2
          exact ⟨fun _ => hQ.1 (by omega), fun _ => hQ.2.1 (by omega), fun _ => ho, fun h => absurd h (by omega)⟩
        rw [ho] at CC
        clear ho hQ
        unfold tokV at CC
        subst h2
        go_wp2_with (go_at_call 60; refine CC.out.mono ?_; rintro e w1 ⟨rfl, hb1⟩; have hB1 := Lib.hid (HB.out.trans (hb1.mono hz)); obtain ⟨x0, x1, x2, y0, y1, y2, hz1⟩ := K3.out _ hB1.out; have hz2 := hb1.size; clear hb1)
        go_roundw
        case rel => exact ⟨3, by omega, by go_num, (by repeat (first | exact hB1.out | refine Below.alloc ?_ (by (try simp); omega) _ | refine Below.setCell ?_ (by (try simp); omega) _)), HN⟩
        case measure => simp [intOf]
      | some p =>
        obtain ⟨kk, tt, nn⟩ := p
        have hpos := (Lx.quoteTok_pos ho).1
        have HN : Hid (Lx.tokenAt r = some (kk, tt, nn)) := by
          subst h2
          exact Lib.hid (by simp [Lx.tokenAt, ho, hQ.1 (by omega), hQ.2.1 (by omega)])
        rw [ho] at CC
        clear ho hQ
        unfold tokV at CC
        subst h2
        go_wp2_with (go_at_call 60; refine CC.out.mono ?_; rintro e w1 ⟨rfl, hb1⟩; have hB1 := Lib.hid (HB.out.trans (hb1.mono hz)); obtain ⟨x0, x1, x2, y0, y1, y2, hz1⟩ := K3.out _ hB1.out; have hz2 := hb1.size; clear hb1)
        exact bodyPost_ret (v := tokV (some (kk, tt, nn))) (by simp [results, Tryd.results63, go_sem, tokV, x0, x1, x2, hz1]) rfl ⟨by rw [HN.out], (by repeat (first | exact HW0.out.trans (hB1.out.mono (by omega)) | refine Below.alloc ?_ (by (try simp); omega) _ | refine Below.setCell ?_ (by simp) _))⟩
    by_cases h3 : k = 3
    · have r3 := hsc.r3
      have CC : Hid (Calls Tryd.prog 61 #[.pointer (some ⟨S, 0, none⟩)] wr fun e w' => e = .returned (tokV (Lx.signTok r)) ∧ Below wr.heap.size wr w') := Lib.hid (C3.out _ HBW.out)
      clear hB hBW hsc C0 C1 C2 C3
      cases ho : Lx.signTok r with
      | none =>
        have HN : Lx.TokQ r 4 := by
          subst h3
          exact ⟨fun _ => hQ.1 (by omega), fun _ => hQ.2.1 (by omega), fun _ => hQ.2.2.1 (by omega), fun _ => ho⟩
        rw [ho] at CC
        clear ho hQ
        unfold tokV at CC
        subst h3
        go_wp2_with (go_at_call 61; refine CC.out.mono ?_; rintro e w1 ⟨rfl, hb1⟩; have hB1 := Lib.hid (HB.out.trans (hb1.mono hz)); obtain ⟨x0, x1, x2, y0, y1, y2, hz1⟩ := K3.out _ hB1.out; have hz2 := hb1.size; clear hb1)
        go_roundw
        case rel => exact ⟨4, by omega, by go_num, (by repeat (first | exact hB1.out | refine Below.alloc ?_ (by (try simp); omega) _ | refine Below.setCell ?_ (by (try simp); omega) _)), HN⟩
        case measure => simp [intOf]
      | some p =>
        obtain ⟨kk, tt, nn⟩ := p
        have hpos := (Lx.signTok_pos ho).1
        have HN : Hid (Lx.tokenAt r = some (kk, tt, nn)) := by
          subst h3
          exact Lib.hid (by simp [Lx.tokenAt, ho, hQ.1 (by omega), hQ.2.1 (by omega), hQ.2.2.1 (by omega)])
        rw [ho] at CC
        clear ho hQ
        unfold tokV at CC
        subst h3
        go_wp2_with (go_at_call 61; refine CC.out.mono ?_; rintro e w1 ⟨rfl, hb1⟩; have hB1 := Lib.hid (HB.out.trans (hb1.mono hz)); obtain ⟨x0, x1, x2, y0, y1, y2, hz1⟩ := K3.out _ hB1.out; have hz2 := hb1.size; clear hb1)
        exact bodyPost_ret (v := tokV (some (kk, tt, nn))) (by simp [results, Tryd.results63, go_sem, tokV, x0, x1, x2, hz1]) rfl ⟨by rw [HN.out], (by repeat (first | exact HW0.out.trans (hB1.out.mono (by omega)) | refine Below.alloc ?_ (by (try simp); omega) _ | refine Below.setCell ?_ (by simp) _))⟩
    have h4 : k = 4 := by omega
    have HN : Hid (Lx.tokenAt r = none) := by
      subst h4
      exact Lib.hid (by simp [Lx.tokenAt, hQ.1 (by omega), hQ.2.1 (by omega), hQ.2.2.1 (by omega), hQ.2.2.2 (by omega)])
    obtain ⟨x0, x1, x2, y0, y1, y2, hz1⟩ := K3.out _ hB
    clear hB hBW hsc C0 C1 C2 C3 hQ
    subst h4
    go_wp2
    exact bodyPost_ret (v := tokV none) (by simp [results, Tryd.results63, go_sem, tokV, x0, x1, x2]) rfl ⟨by rw [HN.out], (by repeat (first | exact HBW.out | refine Below.setCell ?_ (by simp) _))⟩

end Go.Proofs.YtbhknpombmdhiaaDoor
