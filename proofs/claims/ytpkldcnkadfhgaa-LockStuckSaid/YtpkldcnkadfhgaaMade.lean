/- What made does: a table after some calls. -/
import Derived.Test.YtpkldcnkadfhgaaCopyT
import Derived.Test.YtpkldcnkadfhgaaBalRel
namespace Go.Proofs.Ytpkldcnkadfhgaa
open Go.RowKit

/-- The state after calls. -/
def Lk.plays (t : Lk.T) (l : List Op) : Lk.T := l.foldl (fun t o => (Lk.step t o.kd o.lk o.p).1) t
theorem Lk.plays_succ (t : Lk.T) {l : List Op} {i : Nat} {x : Op} (h : l[i]? = some x) : Lk.plays t (l.take (i + 1)) = (Lk.step (Lk.plays t (l.take i)) x.kd x.lk x.p).1 := by
  unfold Lk.plays
  rw [List.take_add_one, h]
  simp
def madePost (w : World) (l : List Op) (e : Ending) (w' : World) : Prop := ∃ bl, e = .returned (.pointer (some ⟨w.heap.size, 0, none⟩)) ∧ Om w bl w.heap.size (Lk.plays Lk.new l) w' 

set_option maxRecDepth 100000 in
set_option maxHeartbeats 4000000 in
theorem made_A (q : Option Addr) (cp : Nat) (L : List Op) (w : World) (hL : OpsIn w q cp L) (h60 : 60 < L.length) :
    Calls Try.prog 26 #[.slice q L.length cp] w (madePost w (L.take 60)) := by
  unfold madePost
  have HL := Lib.hid hL
  have hcp := hL.cap
  have hle := hL.le
  have hml : maxLen ≤ 9223372036854775807 := by unfold maxLen; omega
  clear hL
  go_enter Try.func26, Try.ntmps26
  go_wp2_with fail
  refine (new_any w).mono ?_
  rintro e w1 ⟨rfl, hT1, hB1⟩
  have H1 := Lib.hid (Om.new hT1 hB1)
  have hs1 := hB1.size
  clear hT1 hB1
  go_wp2_with fail
  go_loopw [13] (fun vi wt => ∃ (i : Nat) (bl : Blocks), i ≤ 60 ∧ vi = .int .i64 i ∧ Om w bl w.heap.size (Lk.plays Lk.new (L.take i)) wt) (fun vi _ => 60 - (intOf vi).toNat)
  case atStart => exact ⟨0, _, Nat.zero_le _, rfl, H1.out⟩
  case round =>
    obtain ⟨i, bl, hin, rfl, hO⟩ := hrel
    have HO := Lib.hid hO
    have hzw := hO.bel.size
    clear hO H1
    by_cases hlt : i < 60
    · obtain ⟨x, hx⟩ : ∃ x, L[i]? = some x := ⟨_, List.getElem?_eq_getElem (by omega)⟩
      have HP := Lib.hid (Lk.plays_succ Lk.new hx)
      obtain ⟨ab, ao, hq, hab, q0, q1, q2⟩ := HL.out.cells hx HO.out.bel
      obtain ⟨w0, w1', wp⟩ := HL.out.wf i x hx
      obtain ⟨kd, lk, p⟩ := x
      simp only at q0 q1 q2 wp
      subst hq
      have habr : ab < wr.heap.size := by omega
      have ii0 : (0 : Int) ≤ (i : Int) := by omega
      have HO0 := Lib.hid (HO.out.below (one wr (.cells #[.int .i64 kd, .int .i64 lk, .int .i64 p] 29)))
      have RN := Lib.hid (run_any bl w.heap.size _ kd lk p _ HO0.out.tab wp)
      unfold runPost at RN
      clear hx w0 w1' HO
      go_wp2_with fail
      refine RN.out.mono ?_
      rintro e w2 ⟨rfl, hG⟩
      obtain ⟨bl2, h2, -, -⟩ := HO0.out.gone hG
      have H2 : Hid (Om w bl2 w.heap.size (Lk.plays Lk.new (L.take (i + 1))) w2) := Lib.hid (by rw [HP.out]; exact h2)
      generalize (Lk.step (Lk.plays Lk.new (L.take i)) kd lk p).2 = b2
      have hz2 := h2.bel.size
      clear hG h2 RN HO0 q0 q1 q2 HP
      go_wp2
      go_roundw
      case rel => exact ⟨i + 1, bl2, by omega, by go_num, H2.out⟩
      case measure => simp [intOf]; omega
    · obtain rfl : i = 60 := by omega
      go_wp2
      go_ret
      exact ⟨bl, rfl, by rw [show L.take 60 = L.take (60) by rfl]; exact HO.out⟩


set_option maxRecDepth 100000 in
set_option maxHeartbeats 4000000 in
theorem made_B (q : Option Addr) (cp : Nat) (L : List Op) (w : World) (hL : OpsIn w q cp L) (h60 : L.length ≤ 60) :
    Calls Try.prog 26 #[.slice q L.length cp] w (madePost w (L.take 60)) := by
  unfold madePost
  have HL := Lib.hid hL
  have hcp := hL.cap
  have hle := hL.le
  have hml : maxLen ≤ 9223372036854775807 := by unfold maxLen; omega
  clear hL
  go_enter Try.func26, Try.ntmps26
  go_wp2_with fail
  refine (new_any w).mono ?_
  rintro e w1 ⟨rfl, hT1, hB1⟩
  have H1 := Lib.hid (Om.new hT1 hB1)
  have hs1 := hB1.size
  clear hT1 hB1
  go_wp2_with fail
  go_loopw [13] (fun vi wt => ∃ (i : Nat) (bl : Blocks), i ≤ L.length ∧ vi = .int .i64 i ∧ Om w bl w.heap.size (Lk.plays Lk.new (L.take i)) wt) (fun vi _ => L.length - (intOf vi).toNat)
  case atStart => exact ⟨0, _, Nat.zero_le _, rfl, H1.out⟩
  case round =>
    obtain ⟨i, bl, hin, rfl, hO⟩ := hrel
    have HO := Lib.hid hO
    have hzw := hO.bel.size
    clear hO H1
    by_cases hlt : i < L.length
    · obtain ⟨x, hx⟩ : ∃ x, L[i]? = some x := ⟨_, List.getElem?_eq_getElem (by omega)⟩
      have HP := Lib.hid (Lk.plays_succ Lk.new hx)
      obtain ⟨ab, ao, hq, hab, q0, q1, q2⟩ := HL.out.cells hx HO.out.bel
      obtain ⟨w0, w1', wp⟩ := HL.out.wf i x hx
      obtain ⟨kd, lk, p⟩ := x
      simp only at q0 q1 q2 wp
      subst hq
      have habr : ab < wr.heap.size := by omega
      have ii0 : (0 : Int) ≤ (i : Int) := by omega
      have HO0 := Lib.hid (HO.out.below (one wr (.cells #[.int .i64 kd, .int .i64 lk, .int .i64 p] 29)))
      have RN := Lib.hid (run_any bl w.heap.size _ kd lk p _ HO0.out.tab wp)
      unfold runPost at RN
      clear hx w0 w1' HO
      go_wp2_with fail
      refine RN.out.mono ?_
      rintro e w2 ⟨rfl, hG⟩
      obtain ⟨bl2, h2, -, -⟩ := HO0.out.gone hG
      have H2 : Hid (Om w bl2 w.heap.size (Lk.plays Lk.new (L.take (i + 1))) w2) := Lib.hid (by rw [HP.out]; exact h2)
      generalize (Lk.step (Lk.plays Lk.new (L.take i)) kd lk p).2 = b2
      have hz2 := h2.bel.size
      clear hG h2 RN HO0 q0 q1 q2 HP
      go_wp2
      go_roundw
      case rel => exact ⟨i + 1, bl2, by omega, by go_num, H2.out⟩
      case measure => simp [intOf]; omega
    · obtain rfl : i = L.length := by omega
      go_wp2
      go_ret
      exact ⟨bl, rfl, by rw [show L.take 60 = L.take (L.length) by rw [List.take_of_length_le (by omega), List.take_length]]; exact HO.out⟩

theorem made_any (q : Option Addr) (cp : Nat) (L : List Op) (w : World) (hL : OpsIn w q cp L) : Calls Try.prog 26 #[.slice q L.length cp] w (madePost w (L.take 60)) := by
  by_cases h : 60 < L.length
  · exact made_A q cp L w hL h
  · exact made_B q cp L w hL (by omega)
end Go.Proofs.Ytpkldcnkadfhgaa
