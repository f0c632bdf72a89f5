/- What freeAll does. -/
import Derived.Test.YtpkldcnkadfhgaaFa
namespace Go.Proofs.Ytpkldcnkadfhgaa
open Go.RowKit

set_option maxRecDepth 100000 in
set_option maxHeartbeats 8000000 in
theorem freeAll_any (bl : Blocks) (tb : Nat) (t : Lk.T) (p0 : Int) (w : World) (h : Tab w bl tb t) (hp0 : Lk.isP p0) :
    Calls Try.prog 46 #[.pointer (some ⟨tb, 0, none⟩), .int .i64 p0] w fun e w' => e = .returned (.tuple #[]) ∧ Gone w bl tb (Lk.freeAll t p0) w' := by
  obtain ⟨⟨lv, wv, ls, hR0⟩, hok⟩ := h
  obtain ⟨q, cap, rfl, hcap, hcm, -⟩ := hR0.form
  have hn16 := hok.n16
  have hlen := hR0.len
  obtain ⟨n, hn⟩ : ∃ n, n = t.ls.length := ⟨_, rfl⟩
  have HF0 : Hid (∀ cp, R1 w bl tb (.slice q ls.length cap) ls n (Lk.freeAll t p0) (.slice (some ⟨w.heap.size, 0, none⟩) 1 cp) (w.alloc (.cells #[.int .i64 p0] 3)) (t.waits.length + 1) → True) := Lib.hid fun _ _ => trivial
  have HR1 : Hid (R1 w bl tb (.slice q ls.length cap) ls n (Lk.freeAll t p0) (.slice (some ⟨w.heap.size, 0, none⟩) 1 1) (w.alloc (.cells #[.int .i64 p0] 3)) (t.waits.length + 1)) := Lib.hid (by
    refine ⟨(t, [p0]), by have := hok.waits_len; omega, ⟨hok, hn.symm, fun x hx => (by simp at hx; subst hx; exact hp0), rfl⟩, ⟨⟨bl, wv, hR0.below (one _ _), fun r k e => .inl e, fun r k e e' => ?_⟩, hok, (Fr.refl _ _).alloc _, ?_, fun k e => ?_⟩, rfl⟩
    · simp [Value.ownBlock] at e'; have := hR0.lt _ _ e; omega
    · exact .inr ⟨w.heap.size, 0, 1, #[.int .i64 p0], rfl, by simp, by unfold maxLen; omega, (MapKept.heap_alloc w _).1, by simp, fun i x hx => by
        cases i with
        | zero => simp at hx; subst hx; rfl
        | succ i => simp at hx⟩
    · simp [Value.ownBlock] at e; omega)
  have hn2 : n ≤ 16 := by omega
  have HN : Hid (ls.length = n) := Lib.hid (by omega)
  clear hR0 hok HF0 hp0 hlen hn hn16
  go_enter Try.func46, Try.ntmps46
  go_wp2_with fail
  go_loopw [4] (fun v wt => ∃ N, R1 w bl tb (.slice q ls.length cap) ls n (Lk.freeAll t p0) v wt N) (fun v wt => least (R1 w bl tb (.slice q ls.length cap) ls n (Lk.freeAll t p0) v wt))
  case atStart => exact ⟨_, HR1.out⟩
  case round =>
    obtain ⟨N', hN'⟩ := hrel
    have hL0 := (least_spec hN').1
    obtain ⟨N0, hN0⟩ : ∃ N0, N0 = least (R1 w bl tb (.slice q ls.length cap) ls n (Lk.freeAll t p0) u4 wr) := ⟨_, rfl⟩
    have HLE : Hid (∀ v W M, R1 w bl tb (.slice q ls.length cap) ls n (Lk.freeAll t p0) v W M → M < N0 → least (R1 w bl tb (.slice q ls.length cap) ls n (Lk.freeAll t p0) v W) < least (R1 w bl tb (.slice q ls.length cap) ls n (Lk.freeAll t p0) u4 wr)) := Lib.hid fun v W M h1 h2 => Nat.lt_of_le_of_lt (least_spec h1).2 (by rw [← hN0]; exact h2)
    rw [← hN0] at hL0
    clear hN0
    obtain ⟨⟨t1, todo⟩, hN1, hS, hF, hD⟩ := hL0
    clear hN' HR1
    obtain ⟨p', c', rfl, hc1, hc2, hp'⟩ := hF.line.form
    simp only at *
    cases todo with
    | nil =>
      rw [Lk.drain_nil] at hD
      have HG := Lib.hid hF.gone
      simp only [hD] at HG
      clear hS hF hp'
      simp only [List.length_nil] at *
      go_wp2
      refine bodyPost_end (v := .tuple #[]) (by simp [results, Try.results46]) rfl ?_
      exact ⟨rfl, HG.out⟩
    | cons p r =>
      obtain ⟨g, off, rfl, hg⟩ := hp' (by simp)
      have cq := hF.line.cell (i := 0) rfl
      rw [Nat.add_zero] at cq
      have hpP : Lk.isP p := hS.ps p (by simp)
      obtain ⟨M, rfl⟩ : ∃ M, N0 = M + 1 := ⟨N0 - 1, by have := hS.wt; simp at this; omega⟩
      obtain ⟨nr, hnr⟩ : ∃ nr, nr = r.length := ⟨_, rfl⟩
      have hNR : (p :: r).length = nr + 1 := by simp [hnr]
      rw [hNR] at *
      rw [show (p :: r).length = nr + 1 by simp [hnr]] at HLE
      obtain ⟨o', ho', hF'⟩ := hF.pop
      rw [show (p :: r).length - 1 = nr by simp [hnr]] at hF'
      have HF := Lib.hid hF'
      have HS : Hid (Lk.SOk n M (t1, r)) := Lib.hid ⟨hS.ok, hS.len, fun x hx => hS.ps x (by simp [hx]), by have := hS.wt; simp at this ⊢; omega⟩
      have HD : Hid (Lk.drain M (Lk.allLocks p n (t1, r)).1 (Lk.allLocks p n (t1, r)).2 = Lk.freeAll t p0) := Lib.hid (by rw [← hD, ← hS.len]; rfl)
      have hpw := isP_wf hpP
      have c0 : wr.cell? ⟨tb, 0, none⟩ = some (.slice q ls.length cap) := by
        obtain ⟨bl', wv', hR⟩ := hF.repOf
        exact hR.blk.cell 0 (by omega)
      have htbr : tb < wr.heap.size := by
        obtain ⟨bl', wv', hR⟩ := hF.repOf
        exact hR.lt _ _ hR.hT
      clear hS hF hF' hD hp' hnr hNR
      go_wp2_with fail
      go_quiet (fail)
      go_wp2_with fail
      go_loopw [4, 24] (fun v vi wt => ∃ j : Nat, j ≤ n ∧ vi = .int .i64 j ∧ Fa w bl tb (.slice q ls.length cap) ls v (Lk.allLocks p j (t1, r)) wt) (fun _ vi _ => n - (intOf vi).toNat)
      case atStart => exact ⟨0, Nat.zero_le _, rfl, HF.out.below (below_drewN (Below.refl _ _) _)⟩
      case round =>
        obtain ⟨j, hj, rfl, hF⟩ := hrel
        by_cases hjn : j < n
        · have hS1 := HS.out.allLocks p j
          have HSC : Hid (Lk.allLocks p (j + 1) (t1, r) = Lk.perLock j p (Lk.allLocks p j (t1, r))) := Lib.hid rfl
          generalize Lk.allLocks p j (t1, r) = s1 at *
          obtain ⟨l, hl⟩ : ∃ l, s1.1.ls[j]? = some l := ⟨_, List.getElem?_eq_getElem (by have := hS1.len; omega)⟩
          have hper : Lk.perLock j p s1 = Lk.iter j p (Lk.kget l.held p).toNat s1 := by unfold Lk.perLock; rw [hl]
          have hlo := hS1.ok.ok l (List.mem_of_getElem? hl)
          obtain ⟨K, hK⟩ : ∃ K : Nat, Lk.kget l.held p = (K : Int) := ⟨(Lk.kget l.held p).toNat, by have := hlo.held_0 p; omega⟩
          have hK16 : K ≤ 16 := by have := hlo.held_le p; omega
          rw [hK, Int.toNat_natCast] at hper
          obtain ⟨bl', wv', hR⟩ := hF.repOf
          obtain ⟨lb, hb, e3, els, e4, e5, hLk⟩ := hR.lock j l hl
          obtain ⟨q'', cap'', eq, -, -, hq⟩ := hR.form
          cases eq
          obtain ⟨g2, rfl, hg2, hgc⟩ := hq (by have := HN.out; omega)
          have cg := hgc j lb els
          have k2 : wr.cell? ⟨lb, 2, none⟩ = some (.map (some hb)) := hLk.blk.cell 2 (by omega)
          have HMp := Lib.hid hLk.map
          have HF2 := Lib.hid hF
          have HS1 := Lib.hid hS1
          have HPE := Lib.hid hper
          have jj1 : (j : Int) < (ls.length : Int) := by have := HN.out; omega
          clear hR hLk hgc hq hF hS1 hper hlo hl e3 els e4 e5
          go_wp2_with (at_lookup; refine wpList_get _ rfl _ _ rfl hb _ p rfl HMp.out rfl hpw ?_; rw [hK])
          go_loopw [4, 35] (fun v vi wt => ∃ k : Nat, k ≤ K ∧ vi = .int .i64 k ∧ Fa w bl tb (.slice (some ⟨g2, 0, none⟩) ls.length cap) ls v (Lk.iter j p k s1) wt) (fun _ vi _ => K - (intOf vi).toNat)
          case atStart => exact ⟨0, Nat.zero_le _, rfl, HF2.out⟩
          case round =>
            obtain ⟨k, hk, rfl, hF⟩ := hrel
            by_cases hkK : k < K
            · have hS2 := HS1.out.iter j p k
              have HIT : Hid (Lk.iter j p (k + 1) s1 = Lk.step1 j p (Lk.iter j p k s1)) := Lib.hid rfl
              generalize Lk.iter j p k s1 = s2 at *
              obtain ⟨l2, hl2⟩ : ∃ l2, s2.1.ls[j]? = some l2 := ⟨_, List.getElem?_eq_getElem (by have := hS2.len; omega)⟩
              obtain ⟨pv, cv, rfl, -⟩ := hF.line.form
              obtain ⟨nv, hnv⟩ : ∃ nv, nv = s2.2.length := ⟨_, rfl⟩
              have hnvb : nv ≤ 2000000 := by have := hS2.wt; omega
              have HC := Lib.hid (hF.call hl2 hpP)
              rw [← hnv] at HC ⊢
              have HNV := Lib.hid hnv
              have ej : IntKind.i64.wrap ((j : Int) + 1) = (j : Int) + 1 := IntWalk.i64_in _ (by omega)
              clear hF hS2 hl2 hnv
              go_wp2_with fail
              refine HC.out.mono ?_
              rintro e w2 ⟨nx, er, t', rfl, hF3, hst⟩
              have HF3 := Lib.hid hF3
              have HST := Lib.hid hst
              clear hF3 hst HC
              by_cases h0 : 0 < nx
              · have HST2 : Hid (Lk.iter j p (k + 1) s1 = (t', s2.2 ++ [nx])) := Lib.hid (by rw [HIT.out, HST.out, if_pos h0])
                have hline := HF3.out.line
                have HLn : Hid (Line w2 (.slice pv nv cv) s2.2) := Lib.hid hline
                clear hline
                go_wp2_with (at_builtin; refine wpList_line (w2.alloc (.cells #[.int .i64 nx] 3)) (by rfl) (.tmp 47) (.tmp 49) (by rfl) (.slice pv nv cv) s2.2 (by rfl) (HLn.out.alloc (.cells #[.int .i64 nx] 3)) ⟨w2.heap.size, 0, none⟩ 1 nx (by rfl) (by exact World.cell?_alloc_at _ _ _ _ rfl) (by have := HNV.out; omega) ?_; intro v5 w5 hL5 hG5 hA5)
                refine ⟨⟨k + 1, by omega, by simp, ?_⟩, by simp [intOf]; omega⟩
                rw [HST2.out]
                exact HF3.out.add (o := .cells #[.int .i64 nx] 3) hL5 hG5 hA5
              · have HST2 : Hid (Lk.iter j p (k + 1) s1 = (t', s2.2)) := Lib.hid (by rw [HIT.out, HST.out, if_neg h0])
                go_wp2
                go_roundw
                case rel => exact ⟨k + 1, by omega, by go_num, by rw [HST2.out]; exact HF3.out⟩
                case measure => simp [intOf]; omega
            · obtain rfl : k = K := by omega
              have HF4 : Hid (Fa w bl tb (.slice (some ⟨g2, 0, none⟩) ls.length cap) ls u4 (Lk.allLocks p (j + 1) (t1, r)) wr) := Lib.hid (by rw [HSC.out, HPE.out]; exact hF)
              clear hF
              go_wp2
              go_roundw
              case rel =>
                exact ⟨j + 1, by omega, by go_num, HF4.out⟩
              case measure => simp [intOf]; omega
        · obtain rfl : j = n := by omega
          have hlsn := HN.out
          have HR2 : Hid (R1 w bl tb (.slice q ls.length cap) ls j (Lk.freeAll t p0) u4 wr M) := Lib.hid ⟨_, by omega, HS.out.allLocks p j, hF, HD.out⟩
          clear hF
          go_wp2
          go_roundw
          case rel => exact ⟨_, HR2.out⟩
          case measure => exact HLE.out _ _ M HR2.out (by omega)
end Go.Proofs.Ytpkldcnkadfhgaa
