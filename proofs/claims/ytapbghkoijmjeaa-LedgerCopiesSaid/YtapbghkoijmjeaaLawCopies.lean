/- LedgerCopies. -/
import Derived.Test.YtapbghkoijmjeaaMade
namespace Go.Proofs.Ytapbghkoijmjeaa
set_option linter.unusedVariables false
set_option linter.unusedSimpArgs false
open Go.RowKit Go.Shelf
theorem eqE_self (l : List Ld.En) : eqE l l = true := eqE_of rfl fun i a b ha hb => by
  rw [ha] at hb
  cases hb
  simp [loq]
theorem MdR.log {w wr : World} {b : Nat} {t : Ld.T} {own : Own} (h : MdR w wr b t own) : Calls Try.prog 19 #[ptr b] wr (logPost wr t.es) := by
  obtain ⟨L, hL⟩ := h.ow.rep
  exact log_any hL (by have := h.inv.n400; omega)
theorem MdR.leaks {w wr : World} {b : Nat} {t : Ld.T} {own : Own} (h : MdR w wr b t own) : Calls Try.prog 21 #[ptr b] wr (numsPost wr (ints (Ld.which (fun e => e.lk) t.es))) := by
  obtain ⟨L, hL⟩ := h.ow.rep
  exact leaks_any hL (by have := h.inv.n400; omega)
theorem plays_inv {t : Ld.T} (h : Ld.Inv t) : ∀ l : List Op, Ld.Inv (Ld.plays t l) := by
  intro l
  induction l generalizing t with
  | nil => exact h
  | cons o r ih => exact ih (h.step o)
set_option maxRecDepth 100000 in
set_option maxHeartbeats 8000000 in
theorem law_copies (w : World) (p q : Option Addr) (cap cap2 : Nat) (Lo Mo : List Op) (hL : OpsIn w p cap Lo) (hM : OpsIn w q cap2 Mo) : Calls Try.prog 10 #[.slice p Lo.length cap, .slice q Mo.length cap2] w (still w (.bool true)) := by
  unfold still
  have MA := Lib.hid (made_any w p cap Lo hL)
  unfold madePost at MA
  have AW := Lib.hid awake_any
  unfold still at AW
  have HMo := Lib.hid hM
  generalize Ld.plays Ld.new (Lo.take (min Lo.length 100)) = t1 at MA
  obtain ⟨n, hn⟩ : ∃ n, n = min Mo.length 30 := ⟨_, rfl⟩
  have HN := Lib.hid hn
  have hn1 : (min (Mo.length : Int) 30) = (n : Int) := by omega
  have hcl := hM.le
  have hcm := hM.cap
  unfold maxLen at hcm
  obtain ⟨ln, hln⟩ : ∃ ln, ln = Mo.length := ⟨_, rfl⟩
  have HLN := Lib.hid hln
  rw [← hln] at hn1 hcl ⊢
  have hnl : n ≤ ln := by omega
  have hn30 : n ≤ 30 := by omega
  clear hL hM hn hln
  go_enter Try.func10, Try.ntmps10
  go_wp2_with fail
  refine MA.out.mono ?_
  rintro e w1 ⟨rfl, own1, hM1⟩
  have HM1 := Lib.hid hM1
  have LG := Lib.hid hM1.log
  unfold logPost at LG
  have hz1 : w.heap.size ≤ w1.heap.size := hM1.ow.bel.size
  clear hM1 MA
  go_wp2_with fail
  refine LG.out.mono ?_
  rintro e w2 ⟨p2, c2, rfl, h21, h22, hT2⟩
  have HM2 := Lib.hid (HM1.out.below hT2.2)
  have HT2 := Lib.hid hT2
  obtain ⟨L2, hL2⟩ := HM2.out.ow.rep
  have CP := Lib.hid (copy_any hL2 HM2.out.ow.ok)
  unfold copyPost at CP
  clear hT2 LG HM1 hL2
  go_wp2_with fail
  refine CP.out.mono ?_
  rintro e w3 ⟨d, own2, rfl, hR3, hG3, hb3⟩
  have HTW := Lib.hid (two_copy HM2.out hR3 hG3 hb3)
  have HWAS : Hid (LogAt w w3 own2 (.slice p2 t1.es.length c2) t1.es) := Lib.hid ⟨owns_fr (owns_base HT2.out.1 hz1) (Fr.of_below (S := none_) hb3) (fun _ _ h => h), fun r e => by
    cases e2 : own2 r with
    | none => rfl
    | some s => have := hG3 r s e2; have := (HT2.out.1.lt r e).2; omega⟩
  clear hR3 hG3 hb3 CP HM2 HT2
  have hn4 : t1.es.length ≤ 400 := HTW.out.a.inv.n400
  go_wp2_with fail
  go_loopw [26] (fun i wr => ∃ (k : Nat) (own2 : Own), k ≤ n ∧ i = .int .i64 (k : Int) ∧ Hid (Two w wr w.heap.size d t1 (Ld.plays t1 (Mo.take k)) own1 own2) ∧ Hid (LogAt w wr own2 (.slice p2 t1.es.length c2) t1.es)) (fun i _ => n - (intOf i).toNat)
  case atStart => exact ⟨0, own2, Nat.zero_le _, rfl, HTW, HWAS⟩
  case round =>
    obtain ⟨k, own2, hk, rfl, HTW, HWAS⟩ := hrel
    by_cases hlt : k < n
    · obtain ⟨o, ho⟩ : ∃ o, Mo[k]? = some o := ⟨_, List.getElem?_eq_getElem (by have := HLN.out; omega)⟩
      obtain ⟨ab, ao, rfl, hab, d0, d1, d2⟩ := HMo.out.cells ho HTW.out.a.ow.bel
      have habr : ab < wr.heap.size := Nat.lt_of_lt_of_le hab HTW.out.a.ow.bel.size
      have j1 : (k : Int) < (n : Int) := by omega
      have A : Hid (∀ W, Below wr.heap.size wr W → Calls Try.prog 24 #[ptr d, opV o] W (runPost W own2 d (Ld.step (Ld.plays t1 (Mo.take k)) o))) := Lib.hid fun W hW => by
        obtain ⟨L, hL⟩ := (HTW.out.b.below hW).ow.rep
        exact run_any hL HTW.out.b.inv.ok o
      unfold runPost opV at A
      have HPS := Lib.hid (plays_succ (t := t1) ho)
      clear ho hab
      go_wp2_with fail
      refine (A.out _ (one _ _)).mono ?_
      rintro e w5 ⟨rfl, hG⟩
      obtain ⟨own3, hT5, hk5, hF5⟩ := HTW.out.step o (Gone.from_ (one wr _) hG)
      rw [← HPS.out] at hT5
      have HT5 := Lib.hid hT5
      have HW5 : Hid (LogAt w w5 own3 (.slice p2 t1.es.length c2) t1.es) := Lib.hid ⟨owns_fr HWAS.out.1 hF5 (fun r e hx => hx (HWAS.out.2 r e)), fun r e => by rw [hk5 r (HWAS.out.1.lt r e).2]; exact HWAS.out.2 r e⟩
      clear hG hT5 hk5 hF5 A
      go_wp2
      go_roundw
      case rel => exact ⟨k + 1, own3, by omega, by go_num, HT5, HW5⟩
      case measure => simp [intOf]; omega
    · obtain rfl : k = n := by omega
      have LG := Lib.hid HTW.out.a.log
      unfold logPost at LG
      go_wp2_with fail
      refine LG.out.mono ?_
      rintro e w5 ⟨p5, c5, rfl, h51, h52, hT5⟩
      have HT5 := Lib.hid (HTW.out.below hT5.2)
      have EQ := Lib.hid (equalE_any w5 p5 p2 c5 c2 t1.es t1.es (by omega) (by omega) (LogR.at_ hT5) ((LogR.at_ (w := w) ⟨HWAS.out.1, HTW.out.a.ow.bel⟩).below hT5.2))
      rw [eqE_self] at EQ
      clear hT5 LG HWAS HTW
      go_wp2_with fail
      refine EQ.out.mono ?_
      rintro e w6 ⟨rfl, hb6⟩
      have HT6 := Lib.hid (HT5.out.below hb6)
      clear hb6 EQ HT5
      obtain ⟨t2, ht2⟩ : ∃ t2, t2 = Ld.plays t1 (Mo.take k) := ⟨_, rfl⟩
      have HE2 := Lib.hid ht2
      rw [← ht2] at HT6
      have hn5 : t2.es.length ≤ 400 := HT6.out.b.inv.n400
      clear ht2
      go_wp2_with fail
      go_loopw [45] (fun i wr => ∃ (j : Nat) (own1 : Own), j ≤ k ∧ i = .int .i64 (j : Int) ∧ Hid (Two w wr w.heap.size d (Ld.plays t1 (Mo.take j)) t2 own1 own2)) (fun i _ => k - (intOf i).toNat)
      case atStart => exact ⟨0, own1, Nat.zero_le _, rfl, HT6⟩
      case round =>
        obtain ⟨j, own1, hj, rfl, HTW⟩ := hrel
        clear HT6
        by_cases hjl : j < k
        · obtain ⟨o, ho⟩ : ∃ o, Mo[j]? = some o := ⟨_, List.getElem?_eq_getElem (by have := HLN.out; omega)⟩
          obtain ⟨ab, ao, rfl, hab, d0, d1, d2⟩ := HMo.out.cells ho HTW.out.a.ow.bel
          have habr : ab < wr.heap.size := Nat.lt_of_lt_of_le hab HTW.out.a.ow.bel.size
          have j1 : (j : Int) < (k : Int) := by omega
          have A : Hid (∀ W, Below wr.heap.size wr W → Calls Try.prog 24 #[ptr w.heap.size, opV o] W (runPost W own1 w.heap.size (Ld.step (Ld.plays t1 (Mo.take j)) o))) := Lib.hid fun W hW => by
            obtain ⟨L, hL⟩ := (HTW.out.a.below hW).ow.rep
            exact run_any hL HTW.out.a.inv.ok o
          unfold runPost opV at A
          have HPS := Lib.hid (plays_succ (t := t1) ho)
          clear ho hab
          go_wp2_with fail
          refine (A.out _ (one _ _)).mono ?_
          rintro e w8 ⟨rfl, hG⟩
          obtain ⟨own3, hT8, -, -⟩ := HTW.out.swap.step o (Gone.from_ (one wr _) hG)
          rw [← HPS.out] at hT8
          have HT8 := Lib.hid hT8.swap
          clear hG hT8 A
          go_wp2
          go_roundw
          case rel => exact ⟨j + 1, own3, by omega, by go_num, HT8⟩
          case measure => simp [intOf]; omega
        · obtain rfl : j = k := by omega
          rw [← HE2.out] at HTW
          have LG := Lib.hid HTW.out.a.log
          unfold logPost at LG
          go_wp2_with fail
          refine LG.out.mono ?_
          rintro e w8 ⟨p8, c8, rfl, h81, h82, hT8⟩
          have HT8 := Lib.hid (HTW.out.below hT8.2)
          have HR8 := Lib.hid (LogR.at_ hT8)
          have LG2 := Lib.hid HT8.out.b.log
          unfold logPost at LG2
          clear hT8 LG HTW
          go_wp2_with fail
          refine LG2.out.mono ?_
          rintro e w9 ⟨p9, c9, rfl, h91, h92, hT9⟩
          have HT9 := Lib.hid (HT8.out.below hT9.2)
          have EQ := Lib.hid (equalE_any w9 p8 p9 c8 c9 t2.es t2.es (by omega) (by omega) (HR8.out.below hT9.2) (LogR.at_ hT9))
          rw [eqE_self] at EQ
          clear hT9 LG2 HT8 HR8
          go_wp2_with fail
          refine EQ.out.mono ?_
          rintro e w10 ⟨rfl, hb10⟩
          have HT10 := Lib.hid (HT9.out.below hb10)
          clear hb10 EQ HT9
          obtain ⟨D, hD⟩ : ∃ D, D = ints (Ld.which (fun e => e.lk) t2.es) := ⟨_, rfl⟩
          have hDl : D.length ≤ 400 := by
            have := which_le (fun e => e.lk) t2.es
            rw [hD]; simp only [ints, List.length_map]; omega
          have LK := Lib.hid HT10.out.a.leaks
          have LK2 := Lib.hid (fun W hW => (HT10.out.below hW).b.leaks : ∀ W, Below w10.heap.size w10 W → Calls Try.prog 21 #[ptr d] W (numsPost W (ints (Ld.which (fun e => e.lk) t2.es))))
          rw [← hD] at LK LK2
          unfold numsPost at LK LK2
          clear hD
          go_wp2_with fail
          refine LK.out.mono ?_
          rintro e w11 ⟨p11, c11, rfl, h111, h112, hT11⟩
          have HB11 := Lib.hid hT11.2
          have HN11 := Lib.hid (nums_at hT11.1)
          have LK3 := Lib.hid (LK2.out w11 hT11.2)
          clear hT11 LK LK2
          go_wp2_with fail
          refine LK3.out.mono ?_
          rintro e w12 ⟨p12, c12, rfl, h121, h122, hT12⟩
          have EQ2 := Lib.hid (equalI_any w12 p11 p12 c11 c12 D D (by omega) (by omega) (HN11.out.below hT12.2) (nums_at hT12.1))
          unfold still at EQ2
          rw [beq_self_eq_true] at EQ2
          have HB12 : Hid (Below w.heap.size w w12) := Lib.hid (HT10.out.a.ow.bel.trans ((HB11.out.trans (hT12.2.mono HB11.out.size)).mono HT10.out.a.ow.bel.size))
          clear hT12 LK3 HT10 HN11
          go_wp2_with fail
          refine EQ2.out.mono ?_
          rintro e w13 ⟨rfl, hb13⟩
          have HB13 : Hid (Below w.heap.size w w13) := Lib.hid (HB12.out.trans (hb13.mono HB12.out.size))
          clear hb13 EQ2
          go_wp2_with fail
          refine (AW.out _).mono ?_
          rintro e w14 ⟨rfl, hb⟩
          have HW14 : Hid (Below w.heap.size w w14) := Lib.hid (HB13.out.trans (hb.mono HB13.out.size))
          clear hb
          go_wp2
          go_ret
          exact ⟨rfl, HW14.out⟩
theorem law_copies_c (v u : Value) (w : World) (h : OpsArg w v) (h2 : OpsArg w u) : Calls Try.prog 10 #[v, u] w fun e w' => e = .returned (.bool true) ∧ Below w.heap.size w w' := by
  obtain ⟨p, cap, L, rfl, hL⟩ := h
  obtain ⟨q, cap2, M, rfl, hM⟩ := h2
  exact law_copies w p q cap cap2 L M hL hM
end Go.Proofs.Ytapbghkoijmjeaa
