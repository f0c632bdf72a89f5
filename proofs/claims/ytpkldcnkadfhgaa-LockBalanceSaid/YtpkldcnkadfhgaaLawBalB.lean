/- LockBalance returns true. -/
import Derived.Test.YtpkldcnkadfhgaaBalRel
namespace Go.Proofs.Ytpkldcnkadfhgaa
open Go.RowKit

set_option maxRecDepth 100000 in
set_option maxHeartbeats 16000000 in
theorem law_balance_B (q : Option Addr) (cp : Nat) (L : List Op) (w : World) (hL : OpsIn w q cp L) (h80 : L.length ≤ 80) :
    Calls Try.prog 5 #[.slice q L.length cp] w (still w (.bool true)) := by
  unfold still
  have HL := Lib.hid hL
  have hcp := hL.cap
  have hle := hL.le
  have hml : maxLen ≤ 9223372036854775807 := by unfold maxLen; omega
  have A9 := Lib.hid awake_any
  unfold still at A9
  clear hL
  go_enter Try.func5, Try.ntmps5
  go_wp2_with fail
  refine (new_any w).mono ?_
  rintro e w1 ⟨rfl, hT1, hB1⟩
  have H1 := Lib.hid (Om.new hT1 hB1)
  have hs1 := hB1.size
  clear hT1 hB1
  go_wp2_with fail
  go_loopw [21] (fun vi wt => ∃ (i : Nat) (bl : Blocks) (t : Lk.T), i ≤ L.length ∧ vi = .int .i64 i ∧ Om w bl w.heap.size t wt) (fun vi _ => L.length - (intOf vi).toNat)
  case atStart => exact ⟨0, _, _, Nat.zero_le _, rfl, H1.out⟩
  case round =>
    obtain ⟨i, bl, t, hin, rfl, hO⟩ := hrel
    have HO := Lib.hid hO
    have hzw := hO.bel.size
    clear hO H1
    by_cases hlt : i < L.length
    · obtain ⟨x, hx⟩ : ∃ x, L[i]? = some x := ⟨_, List.getElem?_eq_getElem (by omega)⟩
      obtain ⟨ab, ao, hq, hab, q0, q1, q2⟩ := HL.out.cells hx HO.out.bel
      obtain ⟨w0, w1', wp⟩ := HL.out.wf i x hx
      obtain ⟨kd, lk, p⟩ := x
      simp only at q0 q1 q2 wp
      subst hq
      have habr : ab < wr.heap.size := by omega
      have ii0 : (0 : Int) ≤ (i : Int) := by omega
      have HO0 := Lib.hid (HO.out.below (one wr (.cells #[.int .i64 kd, .int .i64 lk, .int .i64 p] 29)))
      have RN := Lib.hid (run_any bl w.heap.size t kd lk p _ HO0.out.tab wp)
      unfold runPost at RN
      clear hx w0 w1' HO
      go_wp2_with fail
      refine RN.out.mono ?_
      rintro e w2 ⟨rfl, hG⟩
      obtain ⟨bl2, h2, -, -⟩ := HO0.out.gone hG
      generalize (Lk.step t kd lk p).1 = t2 at h2
      generalize (Lk.step t kd lk p).2 = b2
      have H2 := Lib.hid h2
      have SS := Lib.hid (states_any bl2 w.heap.size t2 w2 h2.tab)
      unfold stsPost at SS
      have hz2 := h2.bel.size
      have hok := h2.tab.ok
      have hn16 := hok.n16
      have HOK := Lib.hid hok
      clear hG h2 RN HO0 hok q0 q1 q2
      go_wp2_with fail
      refine SS.out.mono ?_
      rintro e w4 ⟨vS, Ss, rfl, hS⟩
      obtain ⟨pS, cS, rfl⟩ := owns_form hS.row
      have hlenS : Ss.length = t2.ls.length := by rw [hS.len]; omega
      obtain ⟨nS, hnS⟩ : ∃ nS, nS = Ss.length := ⟨_, rfl⟩
      have hnS2 : nS = t2.ls.length := by omega
      rw [← hnS] at hS ⊢
      have HS := Lib.hid hS
      have HnS := Lib.hid hnS
      have HnS2 := Lib.hid hnS2
      have hnS16 : nS ≤ 16 := by omega
      have hz4 := hS.bel.size
      have H4 := Lib.hid (H2.out.below hS.bel)
      have HLS := Lib.hid hlenS
      clear hS SS H2 hnS hnS2 hlenS
      go_wp2_with fail
      go_loopw [31, 6] (fun vj vW wt => ∃ j : Nat, j ≤ nS ∧ vj = .int .i64 j ∧ Line wt vW (Lk.waitsOf t2 j) ∧ (∀ k, vW.ownBlock = some k → w4.heap.size ≤ k) ∧ Below w4.heap.size w4 wt) (fun vj _ _ => nS - (intOf vj).toNat)
      case atStart => exact ⟨0, Nat.zero_le _, rfl, Line.nil _, by simp [Value.ownBlock], Below.refl _ _⟩
      case round =>
        obtain ⟨j, hjn, rfl, hW, hWk, hB⟩ := hrel
        obtain ⟨pW, cW, eW, -⟩ := hW.form
        obtain ⟨nW, hnW⟩ : ∃ nW, nW = (Lk.waitsOf t2 j).length := ⟨_, rfl⟩
        rw [← hnW] at eW
        subst eW
        have HW := Lib.hid hW; have HWk := Lib.hid hWk; have HB := Lib.hid hB; have HnW := Lib.hid hnW
        have hszb := hB.size
        clear hW hWk hB hnW
        by_cases hjl : j < nS
        · obtain ⟨s, hs⟩ : ∃ s, Ss[j]? = some s := ⟨_, List.getElem?_eq_getElem (by have := HnS.out; omega)⟩
          obtain ⟨l, hl, e1, e2, hH, hLn, -, -⟩ := HS.out.each j s hs
          have hSr := HS.out.below HB.out
          obtain ⟨g, c, hv, hg, c0, c1, c2, c3⟩ := hSr.get hs
          rw [← HnS.out] at hv
          cases hv
          obtain ⟨tt, ff, hv, qv⟩ := s
          simp only at e1 e2 hH hLn c0 c1 c2 c3
          subst e1 e2
          obtain ⟨ph, ch, rfl⟩ := owns_form hH
          obtain ⟨pq, cq, e', -⟩ := hLn.form
          obtain ⟨nq, hnq⟩ : ∃ nq, nq = l.wait.length := ⟨_, rfl⟩
          obtain ⟨nh, hnh⟩ : ∃ nh, nh = l.held.length := ⟨_, rfl⟩
          rw [← hnq] at e'
          subst e'
          rw [← hnh] at c2
          have hlo := HOK.out.ok l (List.mem_of_getElem? hl)
          have hnh16 : nh ≤ 16 := by have := hlo.held_len; omega
          have hnqb : nq ≤ 1000000 := by have := hlo.wait_len; omega
          have hf0 := hlo.f0
          have hf16 := hlo.free_le
          have ht16 := hlo.t16
          have ht1 := hlo.t1
          have HLO := Lib.hid hlo
          have HLl := Lib.hid hl
          have hLn0 := hLn
          have Hnq := Lib.hid hnq; have Hnh := Lib.hid hnh
          have jj0 : (0 : Int) ≤ (j : Int) := by omega
          have jj1 : (j : Int) < (nS : Int) := by omega
          have HV := Lib.hid (Blk.new wr #[.int .i64 l.tot, .int .i64 l.free, .slice ph nh ch, .slice pq nq cq] 44)
          have HH4 := Lib.hid hH
          have HLn4 := Lib.hid hLn0
          have hpos := hlo.pos
          have hasc := hlo.asc
          have hbal := hlo.bal
          have hwake := hlo.wake
          have hps := hlo.ps
          have hnd := hlo.nd
          have hapart : ∀ p, p ∈ l.wait → p ∉ Lk.waitsOf t2 j := fun p hp => HOK.out.apart hl hp
          have hwl2 : (Lk.waitsOf t2 j).length ≤ 1000000 := Lk.waitsOf_len HOK.out j
          have hsumle := Lk.sum_take_le (l := l.held) (fun p hp => by have := (hpos p hp).2; omega)
          have HPos := Lib.hid hpos; have HAsc := Lib.hid hasc; have HSum := Lib.hid hsumle; have HApart := Lib.hid hapart; have HND := Lib.hid hnd; have HPS := Lib.hid hps; have HWake := Lib.hid hwake; have HWl2 := Lib.hid hwl2
          have HLWu : Hid (∀ W, Below (wr.alloc (.cells #[.int .i64 l.tot, .int .i64 l.free, .slice ph nh ch, .slice pq nq cq] 44)).heap.size (wr.alloc (.cells #[.int .i64 l.tot, .int .i64 l.free, .slice ph nh ch, .slice pq nq cq] 44)) W → Line W (.slice pW nW cW) (Lk.waitsOf t2 j)) := Lib.hid fun W hW => (HW.out.alloc _).below hW
          clear hs hl hH hLn hLn0 hSr hlo hnq hnh hpos hasc hsumle hapart hnd hps hwake hwl2
          go_wp2_with fail
          go_loopw [40, 9] (fun va v9 wt => ∃ a : Nat, a ≤ nh ∧ va = .int .i64 a ∧ v9 = .int .i64 (l.free + Lk.sum (l.held.take a)) ∧ Below (wr.alloc (.cells #[.int .i64 l.tot, .int .i64 l.free, .slice ph nh ch, .slice pq nq cq] 44)).heap.size (wr.alloc (.cells #[.int .i64 l.tot, .int .i64 l.free, .slice ph nh ch, .slice pq nq cq] 44)) wt) (fun va _ _ => nh - (intOf va).toNat)
          case atStart => exact ⟨0, Nat.zero_le _, rfl, by simp [Lk.sum], Below.refl _ _⟩
          case round =>
            obtain ⟨a, han, rfl, rfl, hB5⟩ := hrel
            have hB5s := hB5.size
            simp only [World.size_alloc] at hB5s
            have hV5 := HV.out.below hB5 (by simp)
            have v0 := hV5.cell 0 (by simp)
            have v1 := hV5.cell 1 (by simp)
            have v2 := hV5.cell 2 (by simp)
            have v3 := hV5.cell 3 (by simp)
            have hvl := hV5.lt
            have HB5 := Lib.hid hB5
            have HBW := Lib.hid (((HB.out.alloc hszb (.cells #[.int .i64 l.tot, .int .i64 l.free, .slice ph nh ch, .slice pq nq cq] 44))).trans (hB5.mono (by simp; omega)))
            have hsa := HSum.out a
            clear hV5 hB5
            by_cases hah : a < nh
            · obtain ⟨⟨x, y⟩, hxy⟩ : ∃ z, l.held[a]? = some z := ⟨_, List.getElem?_eq_getElem (by have := Hnh.out; omega)⟩
              have hxm : (x, y) ∈ l.held := List.mem_of_getElem? hxy
              have hy1 := (HPos.out _ hxm).2
              simp only at hy1
              obtain ⟨gh, c', hph, hghl, k0, k1⟩ := (HH4.out.below HBW.out).get hxy
              rw [← Hnh.out] at hph
              cases hph
              have hsucc := Lk.sum_take_succ hxy
              have hs2 := HSum.out (a + 1)
              rw [hsucc] at hs2
              have aa0 : (0 : Int) ≤ (a : Int) := by omega
              have aa1 : (a : Int) < (nh : Int) := by omega
              have hy1' : ¬ (y < 1) := by omega
              have esum : IntKind.i64.wrap (l.free + Lk.sum (l.held.take a) + y) = l.free + Lk.sum (l.held.take a) + y := IntWalk.i64_in _ (by omega)
              have HN2 := Lib.hid (show l.free + Lk.sum (l.held.take a) + y = l.free + Lk.sum (l.held.take (a + 1)) by rw [hsucc]; omega)
              cases a with
              | zero =>
                clear hsucc hs2 hxm hxy hsa
                have cb1 : decide (y < 1) = false := decide_eq_false hy1'
                have esum0 : IntKind.i64.wrap (l.free + Lk.sum [] + y) = l.free + Lk.sum [] + y := esum
                have cb2 : decide (((0 : Nat) : Int) > 0) = false := by simp
                have cb3 : decide ((0 : Int) > 0) = false := by simp
                go_wp2
                go_big_quiet (fail)
                go_wp2
                go_roundw
                case rel => exact ⟨1, by omega, by go_num, by first | exact congrArg (Value.int .i64) HN2.out | (rw [← HN2.out]), by first | exact below_drewN (HB5.out.alloc HB5.out.size _) _ | exact (HB5.out.alloc HB5.out.size _)⟩
                case measure => simp [intOf]; omega
              | succ a' =>
                obtain ⟨⟨x', y'⟩, hxy'⟩ : ∃ z, l.held[a']? = some z := ⟨_, List.getElem?_eq_getElem (by have := Hnh.out; omega)⟩
                obtain ⟨gh2, c2', hph2, -, k2, k3⟩ := (HH4.out.below HBW.out).get hxy'
                have hgg : gh2 = gh := by cases hph2; rfl
                subst hgg
                have hxx : x' < x := by
                  have h1 := (List.getElem?_eq_some_iff.1 hxy')
                  have h2 := (List.getElem?_eq_some_iff.1 hxy)
                  obtain ⟨i1, e1⟩ := h1
                  obtain ⟨i2, e2⟩ := h2
                  have := List.pairwise_iff_getElem.1 HAsc.out a' (a' + 1) i1 i2 (by omega)
                  rw [e1, e2] at this
                  exact this
                have hge : ¬ (x' ≥ x) := by omega
                have ea : IntKind.i64.wrap ((a' : Int) + 1 - 1) = (a' : Int) := by rw [IntWalk.i64_in _ (by omega)]; omega
                have ea2 : (a' : Int) + 1 - 1 = (a' : Int) := by omega
                have ea3 : ((a' : Int)).toNat = a' := by omega
                have ea4 : (0 : Int) ≤ (a' : Int) := by omega
                have ea5 : (a' : Int) < (nh : Int) := by omega
                have ea6 : ((a' : Int) + 1 > 0) := by omega
                have ea7 : IntKind.i64.wrap (a' : Int) = (a' : Int) := IntWalk.i64_in _ (by omega)
                have ea8 : ((a' : Int) + 1).toNat = a' + 1 := by omega
                clear hsucc hs2 hxm hxy hxy' hxx hsa hph2
                have cb1 : decide (y < 1) = false := decide_eq_false hy1'
                have cb2 : decide ((a' : Int) + 1 > 0) = true := decide_eq_true ea6
                have cb3 : decide (x' ≥ x) = false := decide_eq_false hge
                go_wp2
                go_big_quiet (fail)
                go_wp2
                go_roundw
                case rel => exact ⟨a' + 1 + 1, by omega, by go_num, by first | exact congrArg (Value.int .i64) HN2.out | (rw [← HN2.out]), by first | exact below_drewN (HB5.out.alloc HB5.out.size _) _ | exact (HB5.out.alloc HB5.out.size _)⟩
                case measure => simp [intOf]; omega
            · obtain rfl : nh = a := by omega
              have hfull : l.free + Lk.sum (l.held.take nh) = l.tot := by
                rw [List.take_of_length_le (by have := Hnh.out; omega)]; exact hbal
              rw [hfull]
              have hf1 : ¬ (l.free < 0) := by omega
              have hfr : l.free > 0 → nq = 0 := fun h0 => by
                have := HWake.out h0
                rw [Hnq.out, this]; rfl
              have tneq : (l.tot != l.tot) = false := by simp
              have HLW := Lib.hid (HLWu.out _ HB5.out)
              have HEND : Hid (∀ W v, Line W v (Lk.waitsOf t2 j ++ l.wait) → Line W v (Lk.waitsOf t2 (j + 1))) := Lib.hid fun W v h => by rw [Lk.waitsOf_succ HLl.out]; exact h
              clear hsa hfull
              by_cases hfr1 : ¬ (l.free > 0)
              · have cf : decide (l.free > 0) = false := decide_eq_false hfr1
                go_wp2_with fail
                go_loopw [92, 6] (fun vb v6 wt => ∃ b : Nat, b ≤ nq ∧ vb = .int .i64 b ∧ Line wt v6 (Lk.waitsOf t2 j ++ l.wait.take b) ∧ (∀ k, v6.ownBlock = some k → w4.heap.size ≤ k) ∧ Below w4.heap.size w4 wt) (fun vb _ _ => nq - (intOf vb).toNat)
                case atStart => exact ⟨0, Nat.zero_le _, rfl, by simpa using HLW.out, HWk.out, HBW.out⟩
                case round =>
                  obtain ⟨b, hbn, rfl, hW6, hk6, hB6⟩ := hrel
                  obtain ⟨p6, c6, e6, -⟩ := hW6.form
                  obtain ⟨n6, hn6⟩ : ∃ n6, n6 = (Lk.waitsOf t2 j ++ l.wait.take b).length := ⟨_, rfl⟩
                  rw [← hn6] at e6
                  subst e6
                  have HW6 := Lib.hid hW6; have Hk6 := Lib.hid hk6; have HB6 := Lib.hid hB6
                  have hn6b : n6 ≤ 2000000 := by have h1 := HWl2.out; rw [List.length_append, List.length_take] at hn6; omega
                  have hsz6 := hB6.size
                  clear hW6 hk6 hB6
                  by_cases hbl : b < nq
                  · obtain ⟨z, hz⟩ : ∃ z, l.wait[b]? = some z := ⟨_, List.getElem?_eq_getElem (by have := Hnq.out; omega)⟩
                    have hzm : z ∈ l.wait := List.mem_of_getElem? hz
                    have hq6 := HLn4.out.below HB6.out
                    obtain ⟨pq', cq', eq', -, -, hgq⟩ := hq6.form
                    rw [← Hnq.out] at eq' hgq
                    cases eq'
                    obtain ⟨gq, oq, rfl, hgql⟩ := hgq (by omega)
                    have z0 := hq6.cell hz
                    have hcf : (Lk.waitsOf t2 j ++ l.wait.take b).contains z = false := by
                      rw [← Bool.not_eq_true, List.contains_iff_mem, List.mem_append]
                      rintro (h | h)
                      · exact HApart.out z hzm h
                      · obtain ⟨i1, hi1, e1⟩ := List.getElem_of_mem h
                        have hi2 : i1 < b := by simp at hi1; omega
                        have h3 : l.wait[i1]? = some z := by
                          have : (l.wait.take b)[i1]? = some z := by rw [List.getElem?_eq_getElem hi1, e1]
                          rwa [List.getElem?_take, if_pos hi2] at this
                        obtain ⟨i1l, e3⟩ := List.getElem?_eq_some_iff.1 h3
                        obtain ⟨bl', e4⟩ := List.getElem?_eq_some_iff.1 hz
                        have := List.pairwise_iff_getElem.1 (List.nodup_iff_pairwise_ne.1 HND.out) i1 b i1l bl' hi2
                        exact this (e3.trans e4.symm)
                    have CT := Lib.hid (contains_line wr (.slice p6 n6 c6) _ z HW6.out (by rw [← hn6]; exact hn6b))
                    rw [hcf] at CT
                    have HW7 := Lib.hid (HW6.out.alloc (.cells #[.int .i64 z] 3))
                    have HB7 := Lib.hid (HB6.out.alloc hsz6 (.cells #[.int .i64 z] 3))
                    have HTK : Hid (Lk.waitsOf t2 j ++ l.wait.take b ++ [z] = Lk.waitsOf t2 j ++ l.wait.take (b + 1)) := Lib.hid (by rw [List.take_add_one, hz]; simp)
                    have hn6' := Lib.hid hn6
                    have bb0 : (0 : Int) ≤ (b : Int) := by omega
                    have bb1 : (b : Int) < (nq : Int) := by omega
                    clear hz hzm hq6 hgq hcf hn6
                    go_wp2_with fail
                    refine CT.out.mono ?_
                    rintro e w8 ⟨rfl, hw8⟩
                    obtain rfl := hw8.symm
                    clear CT
                    go_wp2_with (at_builtin; refine wpList_line (wr.alloc (.cells #[.int .i64 z] 3)) (by rfl) (.tmp 99) (.tmp 101) (by rfl) (.slice p6 n6 c6) (Lk.waitsOf t2 j ++ l.wait.take b) (by rfl) HW7.out ⟨wr.heap.size, 0, none⟩ 1 z (by rfl) (by exact World.cell?_alloc_at _ _ _ _ rfl) (by have := hn6'.out; omega) ?_; intro v9 w9 hL9 hG9 hA9; obtain ⟨p9, c9, e9, -⟩ := hL9.form; obtain ⟨n9, hn9⟩ : ∃ n9, n9 = (Lk.waitsOf t2 j ++ l.wait.take b ++ [z]).length := ⟨_, rfl⟩; rw [← hn9] at e9; clear hn9; have hk9 : ∀ k, v9.ownBlock = some k → w4.heap.size ≤ k := (fun k e => by rcases hA9 with h | h; exact Hk6.out k (h ▸ e); (rw [h] at e; simp at e; omega)); have hB9 : Below w4.heap.size w4 w9 := (Fr.grown (S := fun x => w4.heap.size ≤ x) (Fr.of_below HB7.out) hG9 (fun x e => .inl (Hk6.out x e))).below (fun _ h => h) (Nat.le_refl _); subst e9; rw [HTK.out] at hL9; have HL9 := Lib.hid hL9; have HK9 := Lib.hid hk9; have HB9 := Lib.hid hB9; clear hL9 hk9 hB9 hG9 hA9)
                    go_roundw
                    case rel => exact ⟨b + 1, by omega, by go_num, HL9.out, HK9.out, HB9.out⟩
                    case measure => simp [intOf]; omega
                  · have hbq : b = nq := by omega
                    have HF := Lib.hid (HEND.out _ _ (by have h1 := HW6.out; rwa [List.take_of_length_le (by have := Hnq.out; omega)] at h1))
                    clear hn6
                    go_wp2
                    go_roundw
                    case rel => exact ⟨j + 1, by omega, by go_num, HF.out, Hk6.out, HB6.out⟩
                    case measure => simp [intOf]; omega
              · have hfr2 : l.free > 0 := by omega
                have cf : decide (l.free > 0) = true := decide_eq_true hfr2
                obtain rfl : nq = 0 := hfr hfr2
                go_wp2_with fail
                go_loopw [92, 6] (fun vb v6 wt => ∃ b : Nat, b ≤ 0 ∧ vb = .int .i64 b ∧ Line wt v6 (Lk.waitsOf t2 j ++ l.wait.take b) ∧ (∀ k, v6.ownBlock = some k → w4.heap.size ≤ k) ∧ Below w4.heap.size w4 wt) (fun vb _ _ => 0 - (intOf vb).toNat)
                case atStart => exact ⟨0, Nat.zero_le _, rfl, by simpa using HLW.out, HWk.out, HBW.out⟩
                case round =>
                  obtain ⟨b, hbn, rfl, hW6, hk6, hB6⟩ := hrel
                  obtain ⟨p6, c6, e6, -⟩ := hW6.form
                  obtain ⟨n6, hn6⟩ : ∃ n6, n6 = (Lk.waitsOf t2 j ++ l.wait.take b).length := ⟨_, rfl⟩
                  rw [← hn6] at e6
                  subst e6
                  have HW6 := Lib.hid hW6; have Hk6 := Lib.hid hk6; have HB6 := Lib.hid hB6
                  have hn6b : n6 ≤ 2000000 := by have h1 := HWl2.out; rw [List.length_append, List.length_take] at hn6; omega
                  have hsz6 := hB6.size
                  clear hW6 hk6 hB6
                  by_cases hbl : b < 0
                  · exact absurd hbl (Nat.not_lt_zero _)
                  · have hbq : b = 0 := by omega
                    have HF := Lib.hid (HEND.out _ _ (by have h1 := HW6.out; rwa [List.take_of_length_le (by have := Hnq.out; omega)] at h1))
                    clear hn6
                    go_wp2
                    go_roundw
                    case rel => exact ⟨j + 1, by omega, by go_num, HF.out, Hk6.out, HB6.out⟩
                    case measure => simp [intOf]; omega
        · obtain rfl : j = nS := by omega
          go_wp2
          go_roundw
          case rel => exact ⟨i + 1, bl2, t2, by omega, by go_num, H4.out.below HB.out⟩
          case measure => simp [intOf]; omega
    · obtain rfl : i = L.length := by omega
      go_wp2_with fail
      refine (A9.out _).mono ?_
      rintro e w7 ⟨rfl, hb7⟩
      have HB7 := Lib.hid (HO.out.below hb7).bel
      clear hb7
      go_wp2
      go_ret
      exact ⟨rfl, HB7.out⟩
end Go.Proofs.Ytpkldcnkadfhgaa
