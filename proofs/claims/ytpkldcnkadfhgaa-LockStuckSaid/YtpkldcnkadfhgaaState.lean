/- What state does. -/
import Derived.Test.YtpkldcnkadfhgaaKeys
import Derived.Test.YtpkldcnkadfhgaaNilCalls
import Derived.Deep.RegionLaw
import Derived.Deep.DeepCutAuto
namespace Go.Proofs.Ytpkldcnkadfhgaa
open Go.RowKit

/-- The cells of one that holds. -/
def hC (p : Int × Int) : List Value := [.int .i64 p.1, .int .i64 p.2]
theorem info54 : (Try.prog.info? 54).map (fun i => (i.zero, i.size, i.bytes)) = some (some (.agg #[.int .i64 0, .int .i64 0]), 2, 16) := by kernel_rfl
def HRow (W : World) (base : Nat) (v : Value) (l : Lk.KV) : Prop := W.ownsRow base 54 2 v l.length (l.flatMap hC)
def stPost (w : World) (l : Lk.L) (e : Ending) (w' : World) : Prop :=
  ∃ hv qv, e = .returned (stateV l.tot l.free hv qv) ∧ HRow w' w.heap.size hv l.held ∧ Line w' qv l.wait ∧ (∀ k, qv.ownBlock = some k → w.heap.size ≤ k) ∧ Below w.heap.size w w'
def sG (l : Lk.L) (hv qv : Value) : Nat → Value := fun o => if o = 0 then .int .i64 l.tot else if o = 1 then .int .i64 l.free else if o = 2 then hv else qv

theorem owns_base {W : World} {b b' n sz : Nat} {t : TypeId} {v : Value} {xs : List Value} (h : W.ownsRow b t sz v n xs) (hb : b' ≤ b) : W.ownsRow b' t sz v n xs := by
  refine ⟨h.1, ?_⟩
  rcases h.2 with h0 | ⟨g, cap, cur, e, hbg, r⟩
  · exact .inl h0
  · exact .inr ⟨g, cap, cur, e, Nat.le_trans hb hbg, r⟩
theorem owns_form {W : World} {b n sz : Nat} {t : TypeId} {v : Value} {xs : List Value} (h : W.ownsRow b t sz v n xs) : ∃ p c, v = .slice p n c := by
  rcases h.2 with ⟨e, h0⟩ | ⟨g, cap, cur, e, _⟩
  · exact ⟨none, 0, by rw [e, h0]⟩
  · exact ⟨_, _, e⟩
theorem cells_new (w : World) (l : List Value) (t : TypeId) : ∀ j u, l[j]? = some u → (w.alloc (.cells l.toArray t)).cell? ((⟨w.heap.size, 0, none⟩ : Addr).add j) = some u := fun j u hu => by
  rw [Addr.add_mid, Nat.zero_add, World.cell?_alloc_at _ _ _ _ rfl]
  simpa using hu

/-- Behind the first statement: the variable s. -/
def StCut (w : World) (l : Lk.L) (s3 : Value) (wx : World) : Prop :=
  ∃ sb qv, s3 = .pointer (some ⟨sb, 0, none⟩) ∧ Blk wx sb 4 (sG l noSl qv) ∧ Line wx qv l.wait ∧ (∀ k, qv.ownBlock = some k → w.heap.size < k ∧ k ≠ sb) ∧ w.heap.size < sb ∧ Below w.heap.size w wx ∧ Blk wx w.heap.size 4 (fun o => (#[Value.int .i64 0, .int .i64 0, noSl, noSl])[o]?.getD undef)

set_option maxRecDepth 100000 in
set_option maxHeartbeats 2000000 in
theorem state_any (lb hb : Nat) (v : Value) (l : Lk.L) (w : World) (h : Lock w lb hb v l) (hwl : l.wait.length ≤ 1000000) (ha : Lk.Asc l.held) (hhl : l.held.length ≤ 16) (hks : ∀ p ∈ l.held, (Lit.int .i64 p.1).wf = true) :
    Calls Try.prog 43 #[.pointer (some ⟨lb, 0, none⟩)] w (stPost w l) := by
  unfold stPost
  have c0 : w.cell? ⟨lb, 0, none⟩ = some (.int .i64 l.tot) := h.blk.cell 0 (by omega)
  have c1 : w.cell? ⟨lb, 1, none⟩ = some (.int .i64 l.free) := h.blk.cell 1 (by omega)
  have c3 : w.cell? ⟨lb, 3, none⟩ = some v := h.blk.cell 3 (by omega)
  have hlb := h.blk.lt
  obtain ⟨p, cap, rfl, -⟩ := h.line.form
  obtain ⟨n0, hn0⟩ : ∃ n0, n0 = l.wait.length := ⟨_, rfl⟩
  have HR := Lib.hid (Blk.new w #[.int .i64 0, .int .i64 0, noSl, noSl] 44)
  have HK := Lib.hid h
  have CL : Hid (∀ W, Below w.heap.size w W → Calls Try.prog 64 #[.slice p l.wait.length cap] W (lineNew W l.wait)) := Lib.hid fun W hW => clone_line W _ l.wait (h.line.below hW) (by omega)
  have B1 : Hid (Below w.heap.size w (w.alloc (.cells #[.int .i64 0, .int .i64 0, .slice none 0 0, .slice none 0 0] 44)).drew) := Lib.hid (below_drewN (one w _) 1)
  have B2 : Hid (Below w.heap.size w ((w.alloc (.cells #[.int .i64 0, .int .i64 0, .slice none 0 0, .slice none 0 0] 44)).alloc (.cells #[.int .i64 0, .int .i64 0, .slice none 0 0, .slice none 0 0] 44)).drew) := Lib.hid (below_drewN ((one w _).alloc (by simp) _) 1)
  have CC : Hid (∀ W W', Below w.heap.size w W → Below W.heap.size W W' → W'.cell? ⟨lb, 0, none⟩ = some (.int .i64 l.tot) ∧ W'.cell? ⟨lb, 1, none⟩ = some (.int .i64 l.free) ∧ lb < W'.heap.size) := Lib.hid fun W W' h1 h2 => by
    have hk := (h.blk.below h1 hlb).below h2 (Nat.lt_of_lt_of_le hlb h1.size)
    exact ⟨hk.cell 0 (by omega), hk.cell 1 (by omega), hk.lt⟩
  rw [← hn0] at c3 CL HK
  unfold lineNew at CL
  clear h hn0
  have BN : Hid (∀ W', Below ((w.alloc (.cells #[.int .i64 0, .int .i64 0, .slice none 0 0, .slice none 0 0] 44)).alloc (.cells #[.int .i64 0, .int .i64 0, .slice none 0 0, .slice none 0 0] 44)).drew.heap.size ((w.alloc (.cells #[.int .i64 0, .int .i64 0, .slice none 0 0, .slice none 0 0] 44)).alloc (.cells #[.int .i64 0, .int .i64 0, .slice none 0 0, .slice none 0 0] 44)).drew W' → Blk W' (w.heap.size + 1) 4 (fun o => (#[Value.int .i64 0, .int .i64 0, noSl, noSl])[o]?.getD undef) ∧ Blk W' w.heap.size 4 (fun o => (#[Value.int .i64 0, .int .i64 0, noSl, noSl])[o]?.getD undef)) := Lib.hid fun W' hB => by
    have h1 := Blk.new (w.alloc (.cells #[.int .i64 0, .int .i64 0, .slice none 0 0, .slice none 0 0] 44)) #[.int .i64 0, .int .i64 0, noSl, noSl] 44
    rw [World.size_alloc] at h1
    exact ⟨h1.drew.below hB (by simp), ((Blk.new w #[.int .i64 0, .int .i64 0, noSl, noSl] 44).alloc _).drew.below hB (by simp; omega)⟩
  have BM : Hid (∀ W', Below (w.alloc (.cells #[.int .i64 0, .int .i64 0, .slice none 0 0, .slice none 0 0] 44)).drew.heap.size (w.alloc (.cells #[.int .i64 0, .int .i64 0, .slice none 0 0, .slice none 0 0] 44)).drew W' → Blk W' w.heap.size 4 (fun o => (#[Value.int .i64 0, .int .i64 0, noSl, noSl])[o]?.getD undef)) := Lib.hid fun W' hB => (Blk.new w #[.int .i64 0, .int .i64 0, noSl, noSl] 44).drew.below hB (by simp)
  go_enter Try.func43, Try.ntmps43
  go_upto_region 1 with fail
  go_cut [3] (fun s3 wx => StCut w l s3 wx)
  case first =>
    have KS : Hid (∀ W', Below w.heap.size w W' → W'.cell? ⟨lb, 0, none⟩ = some (.int .i64 l.tot) ∧ W'.cell? ⟨lb, 1, none⟩ = some (.int .i64 l.free) ∧ W'.cell? ⟨lb, 3, none⟩ = some (.slice p n0 cap)) := Lib.hid fun W' hW => ⟨cell_of hW c0, cell_of hW c1, cell_of hW c3⟩
    go_region_held3 (fun W' => W'.cell? ⟨lb, 0, none⟩ = some (.int .i64 l.tot) ∧ W'.cell? ⟨lb, 1, none⟩ = some (.int .i64 l.free) ∧ W'.cell? ⟨lb, 3, none⟩ = some (.slice p n0 cap))
      (first | exact KS.out _ B1.out | exact KS.out _ B2.out | exact KS.out _ HB2.out | exact KS.out _ (HB2.out.alloc HB2.out.size _) | exact KS.out _ ((((HB2.out.setCell (by simp) _).setCell (by simp) _).setCell (by simp) _).setCell (by simp) _) | go_keep)
      (first
        | (go_at_call 64; refine (CL.out _ B1.out).mono ?_; rintro e w2 ⟨v', rfl, hL, hN, hb2⟩; have HW2 := Lib.hid (BM.out _ hb2); obtain ⟨p', cap', e', -⟩ := hL.form; obtain ⟨n', hn'⟩ : ∃ n', n' = l.wait.length := ⟨_, rfl⟩; rw [← hn'] at e'; subst e'; have HL := Lib.hid hL; have HN := Lib.hid hN; have HB2 := Lib.hid (B1.out.trans (hb2.mono B1.out.size)); have hz2 := hb2.size; clear hL hN hb2 hn')
        | (go_at_call 64; refine (CL.out _ B2.out).mono ?_; rintro e w2 ⟨v', rfl, hL, hN, hb2⟩; have HW2 := Lib.hid (BN.out _ hb2); have q0 := HW2.out.1.cell 0 (by omega); have q1 := HW2.out.1.cell 1 (by omega); have q2 := HW2.out.1.cell 2 (by omega); have q3 := HW2.out.1.cell 3 (by omega); have f0 := HW2.out.1.fz 0; have f1 := HW2.out.1.fz 1; have f2 := HW2.out.1.fz 2; have f3 := HW2.out.1.fz 3; have hl3 := HW2.out.1.lt; obtain ⟨p', cap', e', -⟩ := hL.form; obtain ⟨n', hn'⟩ : ∃ n', n' = l.wait.length := ⟨_, rfl⟩; rw [← hn'] at e'; subst e'; have HL := Lib.hid hL; have HN := Lib.hid hN; have HB2 := Lib.hid (B2.out.trans (hb2.mono B2.out.size)); have hz2 := hb2.size; clear hL hN hb2 hn'))
    all_goals (go_wp2_with fail; go_meet)
    case rel =>
      simp at hz2
      refine ⟨_, _, rfl, (Blk.new w2 _ 44).ext fun o ho => ?_, HL.out.alloc _, fun k e => ?_, by omega, HB2.out.alloc HB2.out.size _, HW2.out.alloc _⟩
      · have : o = 0 ∨ o = 1 ∨ o = 2 ∨ o = 3 := by simp at ho; omega
        rcases this with rfl | rfl | rfl | rfl <;> simp [sG]
      · have h1 := HN.out k e
        have h2 := HL.out.block k e
        simp at h1
        omega
    case rel =>
      have hns : ∀ k, (Value.slice p' n' cap').ownBlock = some k → w.heap.size < k ∧ k ≠ w.heap.size + 1 := fun k e => by have h1 := HN.out k e; simp at h1; omega
      have hne : (Value.slice p' n' cap').ownBlock ≠ some (w.heap.size + 1) := fun e => (hns _ e).2 rfl
      refine ⟨_, _, rfl, ((((HW2.out.1.set (by omega : 0 < 4) _).set (by omega : 1 < 4) _).set (by omega : 2 < 4) _).set (by omega : 3 < 4) _).ext fun o ho => ?_, (((HL.out.set_other hne _).set_other hne _).set_other hne _).set_other hne _, hns, by omega, (((HB2.out.setCell (by simp) _).setCell (by simp) _).setCell (by simp) _).setCell (by simp) _, (((HW2.out.2.set_other (by omega) _).set_other (by omega) _).set_other (by omega) _).set_other (by omega) _⟩
      have : o = 0 ∨ o = 1 ∨ o = 2 ∨ o = 3 := by omega
      rcases this with rfl | rfl | rfl | rfl <;> simp [upd, sG]
  case rest =>
    obtain ⟨sb, qv, rfl, hB, hL, hN, hsb, hbel, hrb⟩ := hcut
    obtain ⟨p', cap', e', -⟩ := hL.form
    obtain ⟨n', hn'⟩ : ∃ n', n' = l.wait.length := ⟨_, rfl⟩
    rw [← hn'] at e'
    subst e'
    have k2 : wc.cell? ⟨lb, 2, none⟩ = some (.map (some hb)) := (HK.out.blk.below hbel hlb).cell 2 (by omega)
    have hlbc : lb < wc.heap.size := Nat.lt_of_lt_of_le hlb hbel.size
    have hM := HK.out.map.below hbel
    have SR := Lib.hid (sorted_any hb l.held wc hM ha (by omega))
    have HB := Lib.hid hB; have HL := Lib.hid hL; have HN := Lib.hid hN; have HBel := Lib.hid hbel; have HRb := Lib.hid hrb; have HM := Lib.hid hM
    have KY := Lib.hid (keys_any (some hb) wc)
    unfold lineNew at SR
    clear hB hL hN hbel hrb hM hn' B1 B2 BN BM CL CC
    go_wp2_with fail
    refine KY.out.mono ?_
    rintro e w4 ⟨rfl, rfl⟩
    go_wp2_with fail
    refine SR.out.mono ?_
    rintro e w3 ⟨vk, rfl, hLk, hNk, hb3⟩
    obtain ⟨pk, capk, ek, -⟩ := hLk.form
    obtain ⟨nk, hnk⟩ : ∃ nk, nk = (l.held.map (·.1)).length := ⟨_, rfl⟩
    rw [← hnk] at ek
    subst ek
    have hnk2 : nk = l.held.length := by simpa using hnk
    have hbc : Below wc.heap.size wc w3 := ((one wc _)).trans (hb3.mono (by simp))
    have HB3 := Lib.hid (HB.out.below hbc HB.out.lt)
    have HF3 := Lib.hid (Fr.refl (fun x => x = sb) w3)
    have hs3 := hbc.size
    have hsb3 := HB3.out.lt
    have HBel3 := Lib.hid (HBel.out.trans (hbc.mono HBel.out.size))
    have HRb3 := Lib.hid (HRb.out.below hbc (by have := HRb.out.lt; omega))
    have HL3 := Lib.hid (HL.out.below hbc)
    have HM3 := Lib.hid (HM.out.below hbc)
    have HLk := Lib.hid hLk
    have HNk := Lib.hid hNk
    have HK3 := Lib.hid ((HK.out.blk.below HBel3.out hlb))
    have hslt : sb < wc.heap.size := HB.out.lt
    clear hb3 hbc KY SR hLk hNk hnk k2 HB HRb HM HBel HL
    go_wp2_with fail
    go_loopw [27] (fun vi wt => ∃ (i : Nat) (hv : Value), i ≤ nk ∧ vi = .int .i64 i ∧ Blk wt sb 4 (sG l hv (.slice p' n' cap')) ∧ wt.ownsRow w3.heap.size 54 2 hv i ((l.held.take i).flatMap hC) ∧ Fr (fun x => x = sb) w3 wt) (fun vi _ => nk - (intOf vi).toNat)
    case atStart => exact ⟨0, noSl, Nat.zero_le _, rfl, HB3.out, by simpa using World.ownsRow_nil w3 w3.heap.size 54 2, HF3.out⟩
    case round =>
      obtain ⟨i, hv, hin, rfl, hBt, hrow, hFt⟩ := hrel
      have hszt := hFt.size
      have HBt := Lib.hid hBt; have HRow := Lib.hid hrow; have HFt := Lib.hid hFt
      by_cases hlt : i < nk
      · obtain ⟨y, hy⟩ : ∃ y, l.held[i]? = some y := ⟨_, List.getElem?_eq_getElem (by omega)⟩
        have hyk : (l.held.map (·.1))[i]? = some y.1 := by rw [List.getElem?_map, hy]; rfl
        have hym : y ∈ l.held := List.mem_of_getElem? hy
        have hyw := hks y hym
        have hget : Lk.kget l.held y.1 = y.2 := Lk.kget_of_mem ha (by exact hym)
        have hLt := HLk.out.fr hFt (fun k e e' => by have h1 := HNk.out k e; simp at h1; omega)
        obtain ⟨pk', capk', ek', -, -, hgk⟩ := hLt.form
        rw [← hnk2.trans (by simp : l.held.length = (l.held.map (·.1)).length)] at ek' hgk
        cases ek'
        obtain ⟨gk, ok, rfl, hgkl⟩ := hgk (by omega)
        have q0 := hLt.cell hyk
        have hKt := HK3.out.fr hFt (fun e => by omega)
        have k2 : wr.cell? ⟨lb, 2, none⟩ = some (.map (some hb)) := hKt.cell 2 (by omega)
        have hlbr := hKt.lt
        have hhb : hb < w3.heap.size := HM3.out.lt
        have hMt : MapIs wr hb l.held := HM3.out.fr hFt (fun e => by have := HK.out.map.lt; omega)
        have s2 : wr.cell? ⟨sb, 2, none⟩ = some hv := hBt.cell 2 (by omega)
        have z2 := hBt.fz 2
        have hsbr := hBt.lt
        obtain ⟨ph, ch, rfl⟩ := owns_form hrow
        have hlk : ∀ W : World, MapIs W hb l.held → (Instr.lookup 66 (.map (some hb)) (.int .i64 y.1) false).run Try.prog W = .ok (.int .i64 y.2) W := fun W hW => by
          obtain ⟨c, hrun, hat, -⟩ := World.ownsMap.lookup_int hW K3 Try.underlying66 Try.underlying3 (Try.zeroValue3 W) (key_int hyw)
          rw [mapD_at] at hat
          cases hat
          rw [hget] at hrun
          exact hrun
        have hl1 := hlk wr hMt
        have hl2 := hlk wr.drew hMt
        obtain ⟨y1, y2⟩ := y
        simp only at hl1 hl2 q0 hyk
        have HY := Lib.hid hy
        have ii0 : (0 : Int) ≤ (i : Int) := by omega
        have ii1 : (i : Int) < (nk : Int) := by omega
        obtain ⟨i0, hi, hz0, hz1, hzb⟩ := info_parts info54
        have HI := Lib.hid hi; have HZ0 := Lib.hid hz0; have HZ1 := Lib.hid hz1; have HZ2 := Lib.hid hzb
        have HSB : Hid (some sb ≠ (Value.slice ph i ch).ownBlock) := Lib.hid fun e => by have := (hrow.lt sb e.symm).1; omega
        have KN : Hid (∀ j u, [Value.int .i64 y1, .int .i64 y2][j]? = some u → (wr.alloc (.cells #[.int .i64 y1, .int .i64 y2] 54)).cell? ((⟨wr.heap.size, 0, none⟩ : Addr).add j) = some u) := Lib.hid (cells_new wr [.int .i64 y1, .int .i64 y2] 54)
        have KC : Hid ((wr.alloc (.cells #[.int .i64 y1, .int .i64 y2] 54)).cell? ⟨sb, 2, none⟩ = some (.slice ph i ch) ∧ (wr.alloc (.cells #[.int .i64 y1, .int .i64 y2] 54)).frozen? ⟨sb, 2, none⟩ = false) := Lib.hid ⟨(hBt.alloc _).cell 2 (by omega), (hBt.alloc _).fz 2⟩
        have s2b := KC.out.1
        have hml := maxLen_big
        clear hlk hMt hLt hBt hrow hFt hyk hym hget hgk hKt hy hi hz0 hz1 hzb
        go_wp2_with fail
        go_region_law (refine wp_append_at _ _ _ 41 (by rfl) w3.heap.size 54 i0 (.agg #[.int .i64 0, .int .i64 0]) 2 16 Try.underlying41 HI.out HZ0.out HZ1.out HZ2.out (by rfl) (by decide) (.slice ph i ch) i ((l.held.take i).flatMap hC) (by rfl) (by exact HRow.out.alloc _) ⟨wr.heap.size, 0, none⟩ 1 1 [.int .i64 y1, .int .i64 y2] (by rfl) (by rfl) (by exact KN.out) (by simp [Value.oneCell']) (by omega) (by omega) (by simp; omega) ?_; intro v5 w5 hown5 hG5 hat5; have hc5 : w5.cell? ⟨sb, 2, none⟩ = some (.slice ph i ch) := (World.cell?_of_block (a := ⟨sb, 2, none⟩) (hG5.block sb (by simp; omega) HSB.out)).trans (by exact KC.out.1); have hz5 : w5.frozen? ⟨sb, 2, none⟩ = false := (World.frozen?_of_block (a := ⟨sb, 2, none⟩) (hG5.block sb (by simp; omega) HSB.out)).trans (by exact KC.out.2); have hl5 : sb < w5.heap.size := (by have := hG5.size; simp at this; omega); obtain ⟨g5, cp5, rfl⟩ := ownsRow_succ hown5; have HO5 := Lib.hid hown5; have HG5 := Lib.hid hG5; clear hown5 hG5 hat5)
        all_goals have hG6 : (wr.alloc (.cells #[.int .i64 y1, .int .i64 y2] 54)).grownBy w5 (Value.slice ph i ch).ownBlock := ⟨HG5.out.os, HG5.out.tape, HG5.out.output, HG5.out.size, HG5.out.block⟩
        all_goals have HRES : Hid (Blk (w5.setCell ⟨sb, 2, none⟩ (.slice (some ⟨g5, 0, none⟩) (i + 1) cp5)) sb 4 (sG l (.slice (some ⟨g5, 0, none⟩) (i + 1) cp5) (.slice p' n' cap')) ∧ (w5.setCell ⟨sb, 2, none⟩ (.slice (some ⟨g5, 0, none⟩) (i + 1) cp5)).ownsRow w3.heap.size 54 2 (.slice (some ⟨g5, 0, none⟩) (i + 1) cp5) (i + 1) ((l.held.take (i + 1)).flatMap hC) ∧ Fr (fun x => x = sb) w3 (w5.setCell ⟨sb, 2, none⟩ (.slice (some ⟨g5, 0, none⟩) (i + 1) cp5))) := Lib.hid (by
          refine ⟨(((HBt.out.alloc _).grown hG6 HSB.out).set (by omega : 2 < 4) _).ext fun o ho => ?_, ?_, ?_⟩
          · have : o = 0 ∨ o = 1 ∨ o = 2 ∨ o = 3 := by omega
            rcases this with rfl | rfl | rfl | rfl <;> simp [upd, sG]
          · have hx : (l.held.take (i + 1)).flatMap hC = (l.held.take i).flatMap hC ++ [.int .i64 y1, .int .i64 y2] := by
              rw [List.take_add_one, HY.out]; simp [hC]
            rw [hx]
            exact owns_fr HO5.out (S := fun x => x = sb) (Fr.set (S := fun x => x = sb) (Fr.refl _ _) (.inl rfl) 2 _) fun k e e' => by have := (HO5.out.lt k e).1; omega
          · exact Fr.set (Fr.grown (HFt.out.alloc _) hG6 fun x e => .inr (HRow.out.lt x e).1) (.inl rfl) 2 _)
        all_goals clear hG6 s2 s2b hl1 hl2 q0 hc5 hz5
        all_goals go_wp2
        all_goals go_roundw
        all_goals first
          | exact ⟨i + 1, _, by omega, by go_num, HRES.out.1, HRES.out.2.1, HRES.out.2.2⟩
          | (simp [intOf]; omega)
      · obtain rfl : i = nk := by omega
        have hrb := HRb3.out.fr hFt (fun e => by omega)
        have s0 := hBt.cell 0 (by omega)
        have s1 := hBt.cell 1 (by omega)
        have s2 := hBt.cell 2 (by omega)
        have s3 := hBt.cell 3 (by omega)
        have r0 := hrb.cell 0 (by omega)
        have r1 := hrb.cell 1 (by omega)
        have r2 := hrb.cell 2 (by omega)
        have r3 := hrb.cell 3 (by omega)
        have z0 := hrb.fz 0
        have z1 := hrb.fz 1
        have z2 := hrb.fz 2
        have z3 := hrb.fz 3
        have hrbl := hrb.lt
        have hsbl := hBt.lt
        obtain ⟨ph, ch, rfl⟩ := owns_form hrow
        simp only [sG] at s0 s1 s2 s3
        clear hBt hrow hFt hrb
        go_wp2
        refine bodyPost_ret (v := stateV l.tot l.free (.slice ph l.held.length ch) (.slice p' n' cap')) (by simp [results, Try.results43, go_sem, *]) rfl ?_
        have FR := Fr.set (S := fun x => x = w.heap.size) (Fr.set (S := fun x => x = w.heap.size) (Fr.set (S := fun x => x = w.heap.size) (Fr.set (S := fun x => x = w.heap.size) (Fr.refl (fun x => x = w.heap.size) wr) (.inl rfl) 0 (.int .i64 l.tot)) (.inl rfl) 1 (.int .i64 l.free)) (.inl rfl) 2 (.slice ph l.held.length ch)) (.inl rfl) 3 (.slice p' n' cap')
        have hh : l.held.take i = l.held := List.take_of_length_le (by omega)
        refine ⟨_, _, rfl, ?_, ?_, fun k e => Nat.le_of_lt (HN.out k e).1, (HBel3.out.trans (HFt.out.below (n := w.heap.size) (fun x e => by omega) HBel3.out.size)).trans (FR.below (fun x e => by omega) (Nat.le_trans HBel3.out.size hszt))⟩
        · have h1 := HRow.out
          rw [hh, hnk2] at h1
          exact owns_base (owns_fr h1 FR fun k e e' => by have := (h1.lt k e).1; have := HBel3.out.size; omega) HBel3.out.size
        · exact (HL3.out.fr HFt.out fun k e => (HN.out k e).2).fr FR fun k e e' => by have := (HN.out k e).1; omega
end Go.Proofs.Ytpkldcnkadfhgaa
