/- alike over two lists of states of the same table. -/
import Derived.Test.YtpkldcnkadfhgaaSame
namespace Go.Proofs.Ytpkldcnkadfhgaa
open Go.RowKit

set_option maxRecDepth 100000 in
set_option maxHeartbeats 4000000 in
theorem equalFunc_true {w1 w2 : World} {t : Lk.T} {vA vB : Value} {Sa Sb : List SV} (w : World) (hA : Sts w1 t 16 vA Sa w) (hB : Sts w2 t 16 vB Sb w) (hok : Lk.TOk t) :
    Calls Try.prog 57 #[vA, vB, .func (.func 18) #[] #[]] w (still w (.bool true)) := by
  unfold still
  have hn16 := hok.n16
  have ha : Sa.length = t.ls.length := by rw [hA.len]; omega
  have hb : Sb.length = t.ls.length := by rw [hB.len]; omega
  obtain ⟨pa, ca, rfl⟩ := owns_form hA.row
  obtain ⟨pb, cb, rfl⟩ := owns_form hB.row
  obtain ⟨n, hn⟩ : ∃ n, n = t.ls.length := ⟨_, rfl⟩
  have HA : Hid (∀ W, Below w.heap.size w W → Sts w1 t 16 (.slice pa Sa.length ca) Sa W) := Lib.hid fun W hW => hA.below hW
  have HB : Hid (∀ W, Below w.heap.size w W → Sts w2 t 16 (.slice pb Sb.length cb) Sb W) := Lib.hid fun W hW => hB.below hW
  rw [ha, ← hn] at HA ⊢
  rw [hb, ← hn] at HB ⊢
  have hn2 : n ≤ 16 := by omega
  have HOK := Lib.hid hok
  have HLA := Lib.hid ha; have HLB := Lib.hid hb; have HN := Lib.hid hn
  clear hA hB hok ha hb hn hn16
  go_enter Try.func57, Try.ntmps57
  go_wp2_with fail
  go_loopw [17] (fun vi wt => ∃ i : Nat, i ≤ n ∧ vi = .int .i64 i ∧ Below w.heap.size w wt) (fun vi _ => n - (intOf vi).toNat)
  case atStart => exact ⟨0, Nat.zero_le _, rfl, Below.refl _ _⟩
  case round =>
    obtain ⟨i, hi, rfl, hBl⟩ := hrel
    have HBl := Lib.hid hBl
    have hsz := hBl.size
    clear hBl
    by_cases hlt : i < n
    · obtain ⟨a, ea⟩ : ∃ a, Sa[i]? = some a := ⟨_, List.getElem?_eq_getElem (by have := HLA.out; have := HN.out; omega)⟩
      obtain ⟨b, eb⟩ : ∃ b, Sb[i]? = some b := ⟨_, List.getElem?_eq_getElem (by have := HLB.out; have := HN.out; omega)⟩
      have hSa := HA.out wr HBl.out
      have hSb := HB.out wr HBl.out
      obtain ⟨l, hl, t1, f1, H1, L1, -, -⟩ := hSa.each i a ea
      obtain ⟨l', hl', t2, f2, H2, L2, -, -⟩ := hSb.each i b eb
      rw [hl] at hl'
      cases hl'
      obtain ⟨ga, xa, va, hga, a0, a1, a2, a3⟩ := hSa.get ea
      obtain ⟨gb, xb, vb, hgb, b0, b1, b2, b3⟩ := hSb.get eb
      rw [HLA.out, ← HN.out] at va
      rw [HLB.out, ← HN.out] at vb
      cases va
      cases vb
      obtain ⟨at_, af, ah, aq⟩ := a
      obtain ⟨bt, bf, bh, bq⟩ := b
      simp only at t1 f1 H1 L1 t2 f2 H2 L2 a0 a1 a2 a3 b0 b1 b2 b3
      subst t1 f1
      subst t2 f2
      have hlo := HOK.out.ok l (List.mem_of_getElem? hl)
      have SM : Hid (∀ W, Below wr.heap.size wr W → Calls Try.prog 18 #[stateV l.tot l.free ah aq, stateV l.tot l.free bh bq] W (still W (.bool true))) := Lib.hid fun W hW => same_true l.tot l.free l.held l.wait ah bh aq bq _ _ W (H1.below hW) (H2.below hW) (L1.below hW) (L2.below hW) (by have := hlo.held_len; omega) (by have := hlo.wait_len; omega)
      unfold still stateV at SM
      have BB : Hid (Below wr.heap.size wr ((wr.alloc (.cells #[.int .i64 l.tot, .int .i64 l.free, ah, aq] 44)).alloc (.cells #[.int .i64 l.tot, .int .i64 l.free, bh, bq] 44))) := Lib.hid ((one wr _).alloc (by simp) _)
      obtain ⟨pah, cah, rfl⟩ := owns_form H1
      obtain ⟨pbh, cbh, rfl⟩ := owns_form H2
      obtain ⟨paq, caq, rfl, -⟩ := L1.form
      obtain ⟨pbq, cbq, rfl, -⟩ := L2.form
      have ii0 : (0 : Int) ≤ (i : Int) := by omega
      have ii1 : (i : Int) < (n : Int) := by omega
      clear hSa hSb H1 H2 L1 L2 hlo hl ea eb
      go_wp2_with fail
      refine (SM.out _ BB.out).mono ?_
      rintro e w3 ⟨rfl, hb3⟩
      have HB3 := Lib.hid (BB.out.trans (hb3.mono BB.out.size))
      clear hb3 SM
      go_wp2
      go_roundw
      case rel => exact ⟨i + 1, by omega, by go_num, HBl.out.trans (HB3.out.mono hsz)⟩
      case measure => simp [intOf]; omega
    · obtain rfl : i = n := by omega
      go_wp2
      go_ret
      exact ⟨rfl, HBl.out⟩

set_option maxRecDepth 100000 in
theorem alike_true {w1 w2 : World} {t : Lk.T} {vA vB : Value} {Sa Sb : List SV} (w : World) (hA : Sts w1 t 16 vA Sa w) (hB : Sts w2 t 16 vB Sb w) (hok : Lk.TOk t) :
    Calls Try.prog 30 #[vA, vB] w (still w (.bool true)) := by
  have H := Lib.hid (equalFunc_true w hA hB hok)
  unfold still at *
  obtain ⟨pa, ca, rfl⟩ := owns_form hA.row
  obtain ⟨pb, cb, rfl⟩ := owns_form hB.row
  clear hA hB hok
  go_enter Try.func30, Try.ntmps30
  go_wp2_with fail
  refine H.out.mono ?_
  rintro e w3 ⟨rfl, hb⟩
  go_wp2
  go_ret
  exact ⟨rfl, hb⟩
end Go.Proofs.Ytpkldcnkadfhgaa
